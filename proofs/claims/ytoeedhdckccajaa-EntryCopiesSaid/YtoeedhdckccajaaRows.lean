/-
  No cell of these rows narrows 'for every input' (looked for: loops, veiled, ifaces, maps, wideKeys, modest, calm, conditions, laid).
  DERIVED. THE GIVEN ROWS OF THIS SEAT. 4 by the template 'for every input the law returns true; each argument reads behind the call as it read before'; 0 by the template 'total and deterministic' (their statements: YtoeedhdckccajaaTotals.lean).
  GIVEN WITH THE SEED: the statements are not yours to turn. If you find one false, say at which input.
  Laid BY PROGRAM, IN A SANDBOX (cutbox-rows.mjs): the forced cells as the released guide's own fill.sh prints them over the translation 6dabd13b4bdbc801… (all of the seat's roots in one cut). By AI agents, Wed Nov 11 2026. No macro, syntax, notation, axiom, sorry.
-/
import Derived.Test.YtoeedhdckccajaaChecked
import GoSem.Claim
import GoSem.ClaimJoined
import GoSem.ClaimMapViews
import Derived.JoinedTies
import Derived.KernelRfl
namespace Go.Proofs.Ytoeedhdckccajaa
/- THE CELL 'sum', in the pinned program and in every row, IS THE sha256 OF THE DUMP (.gsa) THAT YtoeedhdckccajaaProg.lean LOADS. Nothing in Lean hashes anything: it is a label: what it is worth is what the hold of that sum in a sandbox is worth. -/
noncomputable def Try.pinned : Pinned := { name := "ytoeedhdckccajaa", sum := "6dabd13b4bdbc801129d31d7776e26db86d0e8250bd24efa4ab637edf6241b5d", checked := Try.checked }
namespace Rows
def none {H : Type} : Left H := { results := [], args := [] }

/-- 'tholepinlaw24.EntryHeads': WHATEVER THE INPUT: true; the input reads as it did. -/
def entryHeadsSpec : ChangeSpec := { name := "entryHeads", fn := fun _ => fun
  | [d1, d2, d3] => { results := [.lit (.bool true)], args := [d1, d2, d3] }
  | _ => none }
def entryHeadsRow : OpenClaim := { program := "ytoeedhdckccajaa", sum := "6dabd13b4bdbc801129d31d7776e26db86d0e8250bd24efa4ab637edf6241b5d", func := "tholepin/tholepinlaw24.EntryHeads", spec := "entryHeads", recurses := true, apart := false }
def EntryHeadsSaid : Prop := entryHeadsRow.holds Try.pinned (OpenSpec.ofChange entryHeadsSpec)

/-- ITS FALSE NEIGHBOUR: 'it returns false'. Refute it at one input. -/
def entryHeadsWrong : ChangeSpec := { name := "entryHeads", fn := fun _ => fun
  | [d1, d2, d3] => { results := [.lit (.bool false)], args := [d1, d2, d3] }
  | _ => none }
def EntryHeadsWrongFalsely : Prop := entryHeadsRow.holds Try.pinned (OpenSpec.ofChange entryHeadsWrong)

/-- 'tholepinlaw24.EntryReads': WHATEVER THE INPUT: true; the input reads as it did. -/
def entryReadsSpec : ChangeSpec := { name := "entryReads", fn := fun _ => fun
  | [d1, d2, d3] => { results := [.lit (.bool true)], args := [d1, d2, d3] }
  | _ => none }
def entryReadsRow : OpenClaim := { program := "ytoeedhdckccajaa", sum := "6dabd13b4bdbc801129d31d7776e26db86d0e8250bd24efa4ab637edf6241b5d", func := "tholepin/tholepinlaw24.EntryReads", spec := "entryReads", apart := false }
def EntryReadsSaid : Prop := entryReadsRow.holds Try.pinned (OpenSpec.ofChange entryReadsSpec)

/-- ITS FALSE NEIGHBOUR: 'it returns false'. Refute it at one input. -/
def entryReadsWrong : ChangeSpec := { name := "entryReads", fn := fun _ => fun
  | [d1, d2, d3] => { results := [.lit (.bool false)], args := [d1, d2, d3] }
  | _ => none }
def EntryReadsWrongFalsely : Prop := entryReadsRow.holds Try.pinned (OpenSpec.ofChange entryReadsWrong)

/-- 'tholepinlaw24.EntryDeals': WHATEVER THE INPUT: true; the input reads as it did. -/
def entryDealsSpec : ChangeSpec := { name := "entryDeals", fn := fun _ => fun
  | [d1, d2, d3] => { results := [.lit (.bool true)], args := [d1, d2, d3] }
  | _ => none }
def entryDealsRow : OpenClaim := { program := "ytoeedhdckccajaa", sum := "6dabd13b4bdbc801129d31d7776e26db86d0e8250bd24efa4ab637edf6241b5d", func := "tholepin/tholepinlaw24.EntryDeals", spec := "entryDeals", apart := false }
def EntryDealsSaid : Prop := entryDealsRow.holds Try.pinned (OpenSpec.ofChange entryDealsSpec)

/-- ITS FALSE NEIGHBOUR: 'it returns false'. Refute it at one input. -/
def entryDealsWrong : ChangeSpec := { name := "entryDeals", fn := fun _ => fun
  | [d1, d2, d3] => { results := [.lit (.bool false)], args := [d1, d2, d3] }
  | _ => none }
def EntryDealsWrongFalsely : Prop := entryDealsRow.holds Try.pinned (OpenSpec.ofChange entryDealsWrong)

/-- 'tholepinlaw24.EntryCopies': WHATEVER THE INPUT: true; the input reads as it did. -/
def entryCopiesSpec : ChangeSpec := { name := "entryCopies", fn := fun _ => fun
  | [d1, d2] => { results := [.lit (.bool true)], args := [d1, d2] }
  | _ => none }
def entryCopiesRow : OpenClaim := { program := "ytoeedhdckccajaa", sum := "6dabd13b4bdbc801129d31d7776e26db86d0e8250bd24efa4ab637edf6241b5d", func := "tholepin/tholepinlaw24.EntryCopies", spec := "entryCopies", unfollowed := true, recurses := true, apart := false }
def EntryCopiesSaid : Prop := entryCopiesRow.holds Try.pinned (OpenSpec.ofChange entryCopiesSpec)

/-- ITS FALSE NEIGHBOUR: 'it returns false'. Refute it at one input. -/
def entryCopiesWrong : ChangeSpec := { name := "entryCopies", fn := fun _ => fun
  | [d1, d2] => { results := [.lit (.bool false)], args := [d1, d2] }
  | _ => none }
def EntryCopiesWrongFalsely : Prop := entryCopiesRow.holds Try.pinned (OpenSpec.ofChange entryCopiesWrong)

/- THE SECOND FORM. 'bulk': how many values and letters a reading holds, each counted each time it is reached (what is shared counts as often as it is met; a slice's spare places count too). A statement '..UptoSaid' is the law's where the arguments, and the package variables that the reading takes, are together of bulk at most 1048576: NARROWER than '..Said'. Prove '..Said' where nothing that the law and all that it calls make is longer than what came in: it says more and counts as full. Else prove '..UptoSaid'. A law counts once. -/
mutual
def uptoBulk {H : Type} : DataW H → Nat
  | .lit (.string bytes) => bytes.length + 1
  | .lit _ => 1
  | .nil => 1
  | .ptr d => uptoBulk d + 1
  | .slice elems spare => uptoBulkAll elems + uptoBulkAll spare + 1
  | .agg parts => uptoBulkAll parts + 1
  | .iface _ d => uptoBulk d + 1
  | .map entries => uptoBulkEntries entries + 1
  | .held _ => 1
def uptoBulkAll {H : Type} : List (DataW H) → Nat
  | [] => 0
  | d :: r => uptoBulk d + uptoBulkAll r
def uptoBulkEntries {H : Type} : List (Lit × DataW H) → Nat
  | [] => 0
  | x :: r => uptoBulkEntry x + uptoBulkEntries r
def uptoBulkEntry {H : Type} : Lit × DataW H → Nat
  | (.string bytes, d) => bytes.length + uptoBulk d + 1
  | (_, d) => uptoBulk d + 1
 end
def uptoSmall : (H : Type) → List (DataW H) → Bool := fun _ ds => decide (uptoBulkAll ds ≤ 1048576)
def OpenSpec.upto (s : _root_.Go.ChangeSpec) : _root_.Go.OpenSpec := { _root_.Go.OpenSpec.ofChange s with cond := some uptoSmall }

/-- 'tholepinlaw24.EntryHeads', WHERE WHAT IT READS IS OF BULK AT MOST 1048576: true; the input reads as it did. -/
def entryHeadsUptoRow : OpenClaim := { program := "ytoeedhdckccajaa", sum := "6dabd13b4bdbc801129d31d7776e26db86d0e8250bd24efa4ab637edf6241b5d", func := "tholepin/tholepinlaw24.EntryHeads", spec := "entryHeads", recurses := true, apart := false, narrowed := true }
def EntryHeadsUptoSaid : Prop := entryHeadsUptoRow.holds Try.pinned (OpenSpec.upto entryHeadsSpec)

/-- 'tholepinlaw24.EntryReads', WHERE WHAT IT READS IS OF BULK AT MOST 1048576: true; the input reads as it did. -/
def entryReadsUptoRow : OpenClaim := { program := "ytoeedhdckccajaa", sum := "6dabd13b4bdbc801129d31d7776e26db86d0e8250bd24efa4ab637edf6241b5d", func := "tholepin/tholepinlaw24.EntryReads", spec := "entryReads", apart := false, narrowed := true }
def EntryReadsUptoSaid : Prop := entryReadsUptoRow.holds Try.pinned (OpenSpec.upto entryReadsSpec)

/-- 'tholepinlaw24.EntryDeals', WHERE WHAT IT READS IS OF BULK AT MOST 1048576: true; the input reads as it did. -/
def entryDealsUptoRow : OpenClaim := { program := "ytoeedhdckccajaa", sum := "6dabd13b4bdbc801129d31d7776e26db86d0e8250bd24efa4ab637edf6241b5d", func := "tholepin/tholepinlaw24.EntryDeals", spec := "entryDeals", apart := false, narrowed := true }
def EntryDealsUptoSaid : Prop := entryDealsUptoRow.holds Try.pinned (OpenSpec.upto entryDealsSpec)

/-- 'tholepinlaw24.EntryCopies', WHERE WHAT IT READS IS OF BULK AT MOST 1048576: true; the input reads as it did. -/
def entryCopiesUptoRow : OpenClaim := { program := "ytoeedhdckccajaa", sum := "6dabd13b4bdbc801129d31d7776e26db86d0e8250bd24efa4ab637edf6241b5d", func := "tholepin/tholepinlaw24.EntryCopies", spec := "entryCopies", unfollowed := true, recurses := true, apart := false, narrowed := true }
def EntryCopiesUptoSaid : Prop := entryCopiesUptoRow.holds Try.pinned (OpenSpec.upto entryCopiesSpec)

end Rows
end Go.Proofs.Ytoeedhdckccajaa
