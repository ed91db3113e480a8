/-
  No cell of these rows narrows 'for every input' (looked for: loops, veiled, ifaces, maps, wideKeys, modest, calm, conditions, laid).
  DERIVED. THE GIVEN ROWS OF THIS SEAT. 4 by the template 'for every input the law returns true; each argument reads behind the call as it read before'; 0 by the template 'total and deterministic' (their statements: YtccbgoddalbbaaaTotals.lean).
  GIVEN WITH THE SEED: the statements are not yours to turn. If you find one false, say at which input.
  Laid BY PROGRAM, IN A SANDBOX (cutbox-rows.mjs): the forced cells as the released guide's own fill.sh prints them over the translation b1ce930ddd6d1552… (all of the seat's roots in one cut). By AI agents, Wed Nov 11 2026. No macro, syntax, notation, axiom, sorry.
-/
import Derived.Test.YtccbgoddalbbaaaChecked
import GoSem.Claim
import GoSem.ClaimJoined
import GoSem.ClaimMapViews
import Derived.JoinedTies
import Derived.KernelRfl
namespace Go.Proofs.Ytccbgoddalbbaaa
/- THE CELL 'sum', in the pinned program and in every row, IS THE sha256 OF THE DUMP (.gsa) THAT YtccbgoddalbbaaaProg.lean LOADS. Nothing in Lean hashes anything: it is a label: what it is worth is what the hold of that sum in a sandbox is worth. -/
noncomputable def Try.pinned : Pinned := { name := "ytccbgoddalbbaaa", sum := "b1ce930ddd6d155228cd32b671f6a8f290d45626bd9d3220a5833f1f41e92ce0", checked := Try.checked }
namespace Rows
def none {H : Type} : Left H := { results := [], args := [] }

/-- 'tholepinlaw05.ZigzagSigns': WHATEVER THE INPUT: true; the input reads as it did. -/
def zigzagSignsSpec : ChangeSpec := { name := "zigzagSigns", fn := fun _ => fun
  | [d1, d2, d3] => { results := [.lit (.bool true)], args := [d1, d2, d3] }
  | _ => none }
def zigzagSignsRow : OpenClaim := { program := "ytccbgoddalbbaaa", sum := "b1ce930ddd6d155228cd32b671f6a8f290d45626bd9d3220a5833f1f41e92ce0", func := "tholepin/tholepinlaw05.ZigzagSigns", spec := "zigzagSigns", recurses := true, apart := false }
def ZigzagSignsSaid : Prop := zigzagSignsRow.holds Try.pinned (OpenSpec.ofChange zigzagSignsSpec)

/-- ITS FALSE NEIGHBOUR: 'it returns false'. Refute it at one input. -/
def zigzagSignsWrong : ChangeSpec := { name := "zigzagSigns", fn := fun _ => fun
  | [d1, d2, d3] => { results := [.lit (.bool false)], args := [d1, d2, d3] }
  | _ => none }
def ZigzagSignsWrongFalsely : Prop := zigzagSignsRow.holds Try.pinned (OpenSpec.ofChange zigzagSignsWrong)

/-- 'tholepinlaw05.ZigzagRises': WHATEVER THE INPUT: true; the input reads as it did. -/
def zigzagRisesSpec : ChangeSpec := { name := "zigzagRises", fn := fun _ => fun
  | [d] => { results := [.lit (.bool true)], args := [d] }
  | _ => none }
def zigzagRisesRow : OpenClaim := { program := "ytccbgoddalbbaaa", sum := "b1ce930ddd6d155228cd32b671f6a8f290d45626bd9d3220a5833f1f41e92ce0", func := "tholepin/tholepinlaw05.ZigzagRises", spec := "zigzagRises", recurses := true, apart := false }
def ZigzagRisesSaid : Prop := zigzagRisesRow.holds Try.pinned (OpenSpec.ofChange zigzagRisesSpec)

/-- ITS FALSE NEIGHBOUR: 'it returns false'. Refute it at one input. -/
def zigzagRisesWrong : ChangeSpec := { name := "zigzagRises", fn := fun _ => fun
  | [d] => { results := [.lit (.bool false)], args := [d] }
  | _ => none }
def ZigzagRisesWrongFalsely : Prop := zigzagRisesRow.holds Try.pinned (OpenSpec.ofChange zigzagRisesWrong)

/-- 'tholepinlaw05.ZigzagReads': WHATEVER THE INPUT: true; the input reads as it did. -/
def zigzagReadsSpec : ChangeSpec := { name := "zigzagReads", fn := fun _ => fun
  | [d1, d2] => { results := [.lit (.bool true)], args := [d1, d2] }
  | _ => none }
def zigzagReadsRow : OpenClaim := { program := "ytccbgoddalbbaaa", sum := "b1ce930ddd6d155228cd32b671f6a8f290d45626bd9d3220a5833f1f41e92ce0", func := "tholepin/tholepinlaw05.ZigzagReads", spec := "zigzagReads", apart := false }
def ZigzagReadsSaid : Prop := zigzagReadsRow.holds Try.pinned (OpenSpec.ofChange zigzagReadsSpec)

/-- ITS FALSE NEIGHBOUR: 'it returns false'. Refute it at one input. -/
def zigzagReadsWrong : ChangeSpec := { name := "zigzagReads", fn := fun _ => fun
  | [d1, d2] => { results := [.lit (.bool false)], args := [d1, d2] }
  | _ => none }
def ZigzagReadsWrongFalsely : Prop := zigzagReadsRow.holds Try.pinned (OpenSpec.ofChange zigzagReadsWrong)

/-- 'tholepinlaw05.ZigzagBack': WHATEVER THE INPUT: true; the input reads as it did. -/
def zigzagBackSpec : ChangeSpec := { name := "zigzagBack", fn := fun _ => fun
  | [d1, d2, d3] => { results := [.lit (.bool true)], args := [d1, d2, d3] }
  | _ => none }
def zigzagBackRow : OpenClaim := { program := "ytccbgoddalbbaaa", sum := "b1ce930ddd6d155228cd32b671f6a8f290d45626bd9d3220a5833f1f41e92ce0", func := "tholepin/tholepinlaw05.ZigzagBack", spec := "zigzagBack", recurses := true, apart := false }
def ZigzagBackSaid : Prop := zigzagBackRow.holds Try.pinned (OpenSpec.ofChange zigzagBackSpec)

/-- ITS FALSE NEIGHBOUR: 'it returns false'. Refute it at one input. -/
def zigzagBackWrong : ChangeSpec := { name := "zigzagBack", fn := fun _ => fun
  | [d1, d2, d3] => { results := [.lit (.bool false)], args := [d1, d2, d3] }
  | _ => none }
def ZigzagBackWrongFalsely : Prop := zigzagBackRow.holds Try.pinned (OpenSpec.ofChange zigzagBackWrong)

/- THE SECOND FORM. 'bulk': how many values and letters a reading holds, each counted each time it is reached (what is shared counts as often as it is met; a slice's spare places count too). A statement '..UptoSaid' is the law's where the arguments, and the package variables that the reading takes, are together of bulk at most 1048576: NARROWER than '..Said'. Prove '..Said' where nothing that the law and all that it calls make is longer than what came in: it says more and counts as full. Else prove '..UptoSaid'. A law counts once. -/
mutual
def uptoBulk {H : Type} : DataW H → Nat
  | .lit (.string bytes) => bytes.length + 1
  | .lit _ => 1
  | .nil => 1
  | .ptr d => uptoBulk d + 1
  | .slice elems spare => uptoBulkAll elems + uptoBulkAll spare + 1
  | .agg parts => uptoBulkAll parts + 1
  | .iface _ d => uptoBulk d + 1
  | .map entries => uptoBulkEntries entries + 1
  | .held _ => 1
def uptoBulkAll {H : Type} : List (DataW H) → Nat
  | [] => 0
  | d :: r => uptoBulk d + uptoBulkAll r
def uptoBulkEntries {H : Type} : List (Lit × DataW H) → Nat
  | [] => 0
  | x :: r => uptoBulkEntry x + uptoBulkEntries r
def uptoBulkEntry {H : Type} : Lit × DataW H → Nat
  | (.string bytes, d) => bytes.length + uptoBulk d + 1
  | (_, d) => uptoBulk d + 1
 end
def uptoSmall : (H : Type) → List (DataW H) → Bool := fun _ ds => decide (uptoBulkAll ds ≤ 1048576)
def OpenSpec.upto (s : _root_.Go.ChangeSpec) : _root_.Go.OpenSpec := { _root_.Go.OpenSpec.ofChange s with cond := some uptoSmall }

/-- 'tholepinlaw05.ZigzagSigns', WHERE WHAT IT READS IS OF BULK AT MOST 1048576: true; the input reads as it did. -/
def zigzagSignsUptoRow : OpenClaim := { program := "ytccbgoddalbbaaa", sum := "b1ce930ddd6d155228cd32b671f6a8f290d45626bd9d3220a5833f1f41e92ce0", func := "tholepin/tholepinlaw05.ZigzagSigns", spec := "zigzagSigns", recurses := true, apart := false, narrowed := true }
def ZigzagSignsUptoSaid : Prop := zigzagSignsUptoRow.holds Try.pinned (OpenSpec.upto zigzagSignsSpec)

/-- 'tholepinlaw05.ZigzagRises', WHERE WHAT IT READS IS OF BULK AT MOST 1048576: true; the input reads as it did. -/
def zigzagRisesUptoRow : OpenClaim := { program := "ytccbgoddalbbaaa", sum := "b1ce930ddd6d155228cd32b671f6a8f290d45626bd9d3220a5833f1f41e92ce0", func := "tholepin/tholepinlaw05.ZigzagRises", spec := "zigzagRises", recurses := true, apart := false, narrowed := true }
def ZigzagRisesUptoSaid : Prop := zigzagRisesUptoRow.holds Try.pinned (OpenSpec.upto zigzagRisesSpec)

/-- 'tholepinlaw05.ZigzagReads', WHERE WHAT IT READS IS OF BULK AT MOST 1048576: true; the input reads as it did. -/
def zigzagReadsUptoRow : OpenClaim := { program := "ytccbgoddalbbaaa", sum := "b1ce930ddd6d155228cd32b671f6a8f290d45626bd9d3220a5833f1f41e92ce0", func := "tholepin/tholepinlaw05.ZigzagReads", spec := "zigzagReads", apart := false, narrowed := true }
def ZigzagReadsUptoSaid : Prop := zigzagReadsUptoRow.holds Try.pinned (OpenSpec.upto zigzagReadsSpec)

/-- 'tholepinlaw05.ZigzagBack', WHERE WHAT IT READS IS OF BULK AT MOST 1048576: true; the input reads as it did. -/
def zigzagBackUptoRow : OpenClaim := { program := "ytccbgoddalbbaaa", sum := "b1ce930ddd6d155228cd32b671f6a8f290d45626bd9d3220a5833f1f41e92ce0", func := "tholepin/tholepinlaw05.ZigzagBack", spec := "zigzagBack", recurses := true, apart := false, narrowed := true }
def ZigzagBackUptoSaid : Prop := zigzagBackUptoRow.holds Try.pinned (OpenSpec.upto zigzagBackSpec)

end Rows
end Go.Proofs.Ytccbgoddalbbaaa
