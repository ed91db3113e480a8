/-
  NARROWER THAN 'FOR EVERY INPUT', by the rows' own cells (each row's printed sentence says how): FrameWrites: laid · FrameReads: laid · FrameBack: laid · FrameTells: laid · FrameScans: laid · FrameFinds: laid.
  DERIVED. THE GIVEN ROWS OF THIS SEAT. 6 by the template 'for every input the law returns true; each argument reads behind the call as it read before'; 0 by the template 'total and deterministic' (their statements: YtncomjeidlahlaaDoorTotals.lean).
  GIVEN WITH THE SEED: the statements are not yours to turn. If you find one false, say at which input.
  Laid BY PROGRAM, IN A SANDBOX (cutbox-rows.mjs): the forced cells as the released guide's own fill.sh prints them over the translation 2dea5d38ca5ef879… (all of the seat's roots in one cut). By AI agents, Wed Nov 11 2026. No macro, syntax, notation, axiom, sorry.
-/
import Derived.Test.YtncomjeidlahlaaDoorChecked
import GoSem.Claim
import GoSem.ClaimJoined
import GoSem.ClaimMapViews
import Derived.JoinedTies
import Derived.KernelRfl
namespace Go.Proofs.YtncomjeidlahlaaDoor
/- THE CELL 'sum', in the pinned program and in every row, IS THE sha256 OF THE DUMP (.gsa) THAT YtncomjeidlahlaaDoorProg.lean LOADS. Nothing in Lean hashes anything: it is a label: what it is worth is what the hold of that sum in a sandbox is worth. -/
noncomputable def Tryd.pinned : Pinned := { name := "ytncomjeidlahlaadoor", sum := "2dea5d38ca5ef879441bcf77bf562889e342b2ed73377ac415465a6a86c22818", checked := Tryd.checked }
namespace Rows
def none {H : Type} : Left H := { results := [], args := [] }

/- WHAT THE LISTED PACKAGE-LEVEL VARIABLES READ AS WHEN THE CALL BEGINS. Each datum BY PROGRAM (the guide's laid-datum.mjs) off the statement by which the dump's own 'gosem.cut.vars' lays the variable. In a bare row this is a premise. The card (YtncomjeidlahlaaDoorCards.lean) ties it to the program's text. -/
def laid_tholepin_crc_lower {H : Type} : DataW H := .agg [.lit (.int .u32 0), .lit (.int .u32 4067132163), .lit (.int .u32 3778769143), .lit (.int .u32 324072436), .lit (.int .u32 3348797215), .lit (.int .u32 904991772), .lit (.int .u32 648144872), .lit (.int .u32 3570033899), .lit (.int .u32 2329499855), .lit (.int .u32 2024987596), .lit (.int .u32 1809983544), .lit (.int .u32 2575936315), .lit (.int .u32 1296289744), .lit (.int .u32 3207089363), .lit (.int .u32 2893594407), .lit (.int .u32 1578318884)]
def laid_tholepin_crc_upper {H : Type} : DataW H := .agg [.lit (.int .u32 0), .lit (.int .u32 274646895), .lit (.int .u32 549293790), .lit (.int .u32 820201905), .lit (.int .u32 1098587580), .lit (.int .u32 1361435347), .lit (.int .u32 1640403810), .lit (.int .u32 1905808397), .lit (.int .u32 2197175160), .lit (.int .u32 2460548119), .lit (.int .u32 2722870694), .lit (.int .u32 2987750089), .lit (.int .u32 3280807620), .lit (.int .u32 3553878443), .lit (.int .u32 3811616794), .lit (.int .u32 4084100981)]

/-- 'tholepinlaw08.FrameWrites': WHATEVER THE INPUT: true; the input reads as it did. -/
def frameWritesSpec : ChangeSpec := { name := "frameWrites", fn := fun _ => fun
  | [d1, d2, d3] => { results := [.lit (.bool true)], args := [d1, d2, d3] }
  | _ => none }
def frameWritesRow : OpenClaim := { program := "ytncomjeidlahlaadoor", sum := "2dea5d38ca5ef879441bcf77bf562889e342b2ed73377ac415465a6a86c22818", func := "tholepin/tholepinlaw08.FrameWrites", spec := "frameWrites", recurses := true, named := ["tholepin/crc.lower", "tholepin/crc.upper"], apart := false, laid := [("tholepin/crc.lower", laid_tholepin_crc_lower), ("tholepin/crc.upper", laid_tholepin_crc_upper)] }
def FrameWritesSaid : Prop := frameWritesRow.holds Tryd.pinned (OpenSpec.ofChange frameWritesSpec)

/-- ITS FALSE NEIGHBOUR: 'it returns false'. Refute it at one input. -/
def frameWritesWrong : ChangeSpec := { name := "frameWrites", fn := fun _ => fun
  | [d1, d2, d3] => { results := [.lit (.bool false)], args := [d1, d2, d3] }
  | _ => none }
def FrameWritesWrongFalsely : Prop := frameWritesRow.holds Tryd.pinned (OpenSpec.ofChange frameWritesWrong)

/-- 'tholepinlaw08.FrameReads': WHATEVER THE INPUT: true; the input reads as it did. -/
def frameReadsSpec : ChangeSpec := { name := "frameReads", fn := fun _ => fun
  | [d1, d2] => { results := [.lit (.bool true)], args := [d1, d2] }
  | _ => none }
def frameReadsRow : OpenClaim := { program := "ytncomjeidlahlaadoor", sum := "2dea5d38ca5ef879441bcf77bf562889e342b2ed73377ac415465a6a86c22818", func := "tholepin/tholepinlaw08.FrameReads", spec := "frameReads", unfollowed := true, recurses := true, named := ["tholepin/crc.lower", "tholepin/crc.upper"], apart := false, laid := [("tholepin/crc.lower", laid_tholepin_crc_lower), ("tholepin/crc.upper", laid_tholepin_crc_upper)] }
def FrameReadsSaid : Prop := frameReadsRow.holds Tryd.pinned (OpenSpec.ofChange frameReadsSpec)

/-- ITS FALSE NEIGHBOUR: 'it returns false'. Refute it at one input. -/
def frameReadsWrong : ChangeSpec := { name := "frameReads", fn := fun _ => fun
  | [d1, d2] => { results := [.lit (.bool false)], args := [d1, d2] }
  | _ => none }
def FrameReadsWrongFalsely : Prop := frameReadsRow.holds Tryd.pinned (OpenSpec.ofChange frameReadsWrong)

/-- 'tholepinlaw08.FrameBack': WHATEVER THE INPUT: true; the input reads as it did. -/
def frameBackSpec : ChangeSpec := { name := "frameBack", fn := fun _ => fun
  | [d1, d2, d3] => { results := [.lit (.bool true)], args := [d1, d2, d3] }
  | _ => none }
def frameBackRow : OpenClaim := { program := "ytncomjeidlahlaadoor", sum := "2dea5d38ca5ef879441bcf77bf562889e342b2ed73377ac415465a6a86c22818", func := "tholepin/tholepinlaw08.FrameBack", spec := "frameBack", unfollowed := true, recurses := true, named := ["tholepin/crc.lower", "tholepin/crc.upper"], apart := false, laid := [("tholepin/crc.lower", laid_tholepin_crc_lower), ("tholepin/crc.upper", laid_tholepin_crc_upper)] }
def FrameBackSaid : Prop := frameBackRow.holds Tryd.pinned (OpenSpec.ofChange frameBackSpec)

/-- ITS FALSE NEIGHBOUR: 'it returns false'. Refute it at one input. -/
def frameBackWrong : ChangeSpec := { name := "frameBack", fn := fun _ => fun
  | [d1, d2, d3] => { results := [.lit (.bool false)], args := [d1, d2, d3] }
  | _ => none }
def FrameBackWrongFalsely : Prop := frameBackRow.holds Tryd.pinned (OpenSpec.ofChange frameBackWrong)

/-- 'tholepinlaw08.FrameTells': WHATEVER THE INPUT: true; the input reads as it did. -/
def frameTellsSpec : ChangeSpec := { name := "frameTells", fn := fun _ => fun
  | [d1, d2, d3] => { results := [.lit (.bool true)], args := [d1, d2, d3] }
  | _ => none }
def frameTellsRow : OpenClaim := { program := "ytncomjeidlahlaadoor", sum := "2dea5d38ca5ef879441bcf77bf562889e342b2ed73377ac415465a6a86c22818", func := "tholepin/tholepinlaw08.FrameTells", spec := "frameTells", unfollowed := true, recurses := true, named := ["tholepin/crc.lower", "tholepin/crc.upper"], apart := false, laid := [("tholepin/crc.lower", laid_tholepin_crc_lower), ("tholepin/crc.upper", laid_tholepin_crc_upper)] }
def FrameTellsSaid : Prop := frameTellsRow.holds Tryd.pinned (OpenSpec.ofChange frameTellsSpec)

/-- ITS FALSE NEIGHBOUR: 'it returns false'. Refute it at one input. -/
def frameTellsWrong : ChangeSpec := { name := "frameTells", fn := fun _ => fun
  | [d1, d2, d3] => { results := [.lit (.bool false)], args := [d1, d2, d3] }
  | _ => none }
def FrameTellsWrongFalsely : Prop := frameTellsRow.holds Tryd.pinned (OpenSpec.ofChange frameTellsWrong)

/-- 'tholepinlaw08.FrameScans': WHATEVER THE INPUT: true; the input reads as it did. -/
def frameScansSpec : ChangeSpec := { name := "frameScans", fn := fun _ => fun
  | [d1, d2, d3] => { results := [.lit (.bool true)], args := [d1, d2, d3] }
  | _ => none }
def frameScansRow : OpenClaim := { program := "ytncomjeidlahlaadoor", sum := "2dea5d38ca5ef879441bcf77bf562889e342b2ed73377ac415465a6a86c22818", func := "tholepin/tholepinlaw08.FrameScans", spec := "frameScans", unfollowed := true, recurses := true, named := ["tholepin/crc.lower", "tholepin/crc.upper"], apart := false, laid := [("tholepin/crc.lower", laid_tholepin_crc_lower), ("tholepin/crc.upper", laid_tholepin_crc_upper)] }
def FrameScansSaid : Prop := frameScansRow.holds Tryd.pinned (OpenSpec.ofChange frameScansSpec)

/-- ITS FALSE NEIGHBOUR: 'it returns false'. Refute it at one input. -/
def frameScansWrong : ChangeSpec := { name := "frameScans", fn := fun _ => fun
  | [d1, d2, d3] => { results := [.lit (.bool false)], args := [d1, d2, d3] }
  | _ => none }
def FrameScansWrongFalsely : Prop := frameScansRow.holds Tryd.pinned (OpenSpec.ofChange frameScansWrong)

/-- 'tholepinlaw08.FrameFinds': WHATEVER THE INPUT: true; the input reads as it did. -/
def frameFindsSpec : ChangeSpec := { name := "frameFinds", fn := fun _ => fun
  | [d1, d2] => { results := [.lit (.bool true)], args := [d1, d2] }
  | _ => none }
def frameFindsRow : OpenClaim := { program := "ytncomjeidlahlaadoor", sum := "2dea5d38ca5ef879441bcf77bf562889e342b2ed73377ac415465a6a86c22818", func := "tholepin/tholepinlaw08.FrameFinds", spec := "frameFinds", unfollowed := true, recurses := true, named := ["tholepin/crc.lower", "tholepin/crc.upper"], apart := false, laid := [("tholepin/crc.lower", laid_tholepin_crc_lower), ("tholepin/crc.upper", laid_tholepin_crc_upper)] }
def FrameFindsSaid : Prop := frameFindsRow.holds Tryd.pinned (OpenSpec.ofChange frameFindsSpec)

/-- ITS FALSE NEIGHBOUR: 'it returns false'. Refute it at one input. -/
def frameFindsWrong : ChangeSpec := { name := "frameFinds", fn := fun _ => fun
  | [d1, d2] => { results := [.lit (.bool false)], args := [d1, d2] }
  | _ => none }
def FrameFindsWrongFalsely : Prop := frameFindsRow.holds Tryd.pinned (OpenSpec.ofChange frameFindsWrong)

/- THE SECOND FORM. 'bulk': how many values and letters a reading holds, each counted each time it is reached (what is shared counts as often as it is met; a slice's spare places count too). A statement '..UptoSaid' is the law's where the arguments, and the package variables that the reading takes, are together of bulk at most 1048576: NARROWER than '..Said'. Prove '..Said' where nothing that the law and all that it calls make is longer than what came in: it says more and counts as full. Else prove '..UptoSaid'. A law counts once. -/
mutual
def uptoBulk {H : Type} : DataW H → Nat
  | .lit (.string bytes) => bytes.length + 1
  | .lit _ => 1
  | .nil => 1
  | .ptr d => uptoBulk d + 1
  | .slice elems spare => uptoBulkAll elems + uptoBulkAll spare + 1
  | .agg parts => uptoBulkAll parts + 1
  | .iface _ d => uptoBulk d + 1
  | .map entries => uptoBulkEntries entries + 1
  | .held _ => 1
def uptoBulkAll {H : Type} : List (DataW H) → Nat
  | [] => 0
  | d :: r => uptoBulk d + uptoBulkAll r
def uptoBulkEntries {H : Type} : List (Lit × DataW H) → Nat
  | [] => 0
  | x :: r => uptoBulkEntry x + uptoBulkEntries r
def uptoBulkEntry {H : Type} : Lit × DataW H → Nat
  | (.string bytes, d) => bytes.length + uptoBulk d + 1
  | (_, d) => uptoBulk d + 1
 end
def uptoSmall : (H : Type) → List (DataW H) → Bool := fun _ ds => decide (uptoBulkAll ds ≤ 1048576)
def OpenSpec.upto (s : _root_.Go.ChangeSpec) : _root_.Go.OpenSpec := { _root_.Go.OpenSpec.ofChange s with cond := some uptoSmall }

/-- 'tholepinlaw08.FrameWrites', WHERE WHAT IT READS IS OF BULK AT MOST 1048576: true; the input reads as it did. -/
def frameWritesUptoRow : OpenClaim := { program := "ytncomjeidlahlaadoor", sum := "2dea5d38ca5ef879441bcf77bf562889e342b2ed73377ac415465a6a86c22818", func := "tholepin/tholepinlaw08.FrameWrites", spec := "frameWrites", recurses := true, named := ["tholepin/crc.lower", "tholepin/crc.upper"], apart := false, laid := [("tholepin/crc.lower", laid_tholepin_crc_lower), ("tholepin/crc.upper", laid_tholepin_crc_upper)], narrowed := true }
def FrameWritesUptoSaid : Prop := frameWritesUptoRow.holds Tryd.pinned (OpenSpec.upto frameWritesSpec)

/-- 'tholepinlaw08.FrameReads', WHERE WHAT IT READS IS OF BULK AT MOST 1048576: true; the input reads as it did. -/
def frameReadsUptoRow : OpenClaim := { program := "ytncomjeidlahlaadoor", sum := "2dea5d38ca5ef879441bcf77bf562889e342b2ed73377ac415465a6a86c22818", func := "tholepin/tholepinlaw08.FrameReads", spec := "frameReads", unfollowed := true, recurses := true, named := ["tholepin/crc.lower", "tholepin/crc.upper"], apart := false, laid := [("tholepin/crc.lower", laid_tholepin_crc_lower), ("tholepin/crc.upper", laid_tholepin_crc_upper)], narrowed := true }
def FrameReadsUptoSaid : Prop := frameReadsUptoRow.holds Tryd.pinned (OpenSpec.upto frameReadsSpec)

/-- 'tholepinlaw08.FrameBack', WHERE WHAT IT READS IS OF BULK AT MOST 1048576: true; the input reads as it did. -/
def frameBackUptoRow : OpenClaim := { program := "ytncomjeidlahlaadoor", sum := "2dea5d38ca5ef879441bcf77bf562889e342b2ed73377ac415465a6a86c22818", func := "tholepin/tholepinlaw08.FrameBack", spec := "frameBack", unfollowed := true, recurses := true, named := ["tholepin/crc.lower", "tholepin/crc.upper"], apart := false, laid := [("tholepin/crc.lower", laid_tholepin_crc_lower), ("tholepin/crc.upper", laid_tholepin_crc_upper)], narrowed := true }
def FrameBackUptoSaid : Prop := frameBackUptoRow.holds Tryd.pinned (OpenSpec.upto frameBackSpec)

/-- 'tholepinlaw08.FrameTells', WHERE WHAT IT READS IS OF BULK AT MOST 1048576: true; the input reads as it did. -/
def frameTellsUptoRow : OpenClaim := { program := "ytncomjeidlahlaadoor", sum := "2dea5d38ca5ef879441bcf77bf562889e342b2ed73377ac415465a6a86c22818", func := "tholepin/tholepinlaw08.FrameTells", spec := "frameTells", unfollowed := true, recurses := true, named := ["tholepin/crc.lower", "tholepin/crc.upper"], apart := false, laid := [("tholepin/crc.lower", laid_tholepin_crc_lower), ("tholepin/crc.upper", laid_tholepin_crc_upper)], narrowed := true }
def FrameTellsUptoSaid : Prop := frameTellsUptoRow.holds Tryd.pinned (OpenSpec.upto frameTellsSpec)

/-- 'tholepinlaw08.FrameScans', WHERE WHAT IT READS IS OF BULK AT MOST 1048576: true; the input reads as it did. -/
def frameScansUptoRow : OpenClaim := { program := "ytncomjeidlahlaadoor", sum := "2dea5d38ca5ef879441bcf77bf562889e342b2ed73377ac415465a6a86c22818", func := "tholepin/tholepinlaw08.FrameScans", spec := "frameScans", unfollowed := true, recurses := true, named := ["tholepin/crc.lower", "tholepin/crc.upper"], apart := false, laid := [("tholepin/crc.lower", laid_tholepin_crc_lower), ("tholepin/crc.upper", laid_tholepin_crc_upper)], narrowed := true }
def FrameScansUptoSaid : Prop := frameScansUptoRow.holds Tryd.pinned (OpenSpec.upto frameScansSpec)

/-- 'tholepinlaw08.FrameFinds', WHERE WHAT IT READS IS OF BULK AT MOST 1048576: true; the input reads as it did. -/
def frameFindsUptoRow : OpenClaim := { program := "ytncomjeidlahlaadoor", sum := "2dea5d38ca5ef879441bcf77bf562889e342b2ed73377ac415465a6a86c22818", func := "tholepin/tholepinlaw08.FrameFinds", spec := "frameFinds", unfollowed := true, recurses := true, named := ["tholepin/crc.lower", "tholepin/crc.upper"], apart := false, laid := [("tholepin/crc.lower", laid_tholepin_crc_lower), ("tholepin/crc.upper", laid_tholepin_crc_upper)], narrowed := true }
def FrameFindsUptoSaid : Prop := frameFindsUptoRow.holds Tryd.pinned (OpenSpec.upto frameFindsSpec)

end Rows
end Go.Proofs.YtncomjeidlahlaaDoor
