/-
  NARROWER THAN 'FOR EVERY INPUT', by the rows' own cells (each row's printed sentence says how): SegmentNobody: laid · SegmentFull: laid · SegmentOrder: laid.
  DERIVED. THE GIVEN ROWS OF THIS SEAT. 3 by the template 'for every input the law returns true; each argument reads behind the call as it read before'; 0 by the template 'total and deterministic' (their statements: YtmokjopffgmfjaaGreatDoorTotals.lean).
  GIVEN WITH THE SEED: the statements are not yours to turn. If you find one false, say at which input.
  Laid BY PROGRAM, IN A SANDBOX (cutbox-rows.mjs): the forced cells as the released guide's own fill.sh prints them over the translation ae636eabd5d86f2f… (all of the seat's roots in one cut). By AI agents, Wed Nov 11 2026. No macro, syntax, notation, axiom, sorry.
-/
import Derived.Test.YtmokjopffgmfjaaGreatDoorChecked
import GoSem.Claim
import GoSem.ClaimJoined
import GoSem.ClaimMapViews
import Derived.JoinedTies
import Derived.KernelRfl
namespace Go.Proofs.YtmokjopffgmfjaaGreatDoor
/- THE CELL 'sum', in the pinned program and in every row, IS THE sha256 OF THE DUMP (.gsa) THAT YtmokjopffgmfjaaGreatDoorProg.lean LOADS. Nothing in Lean hashes anything: it is a label: what it is worth is what the hold of that sum in a sandbox is worth. -/
noncomputable def Tryz.pinned : Pinned := { name := "ytmokjopffgmfjaagreatdoor", sum := "ae636eabd5d86f2ff2c5b2e5b2d123ba144bf0dda7e0169e12ce16e4851c6870", checked := Tryz.checked }
namespace Rows
def none {H : Type} : Left H := { results := [], args := [] }

/- WHAT THE LISTED PACKAGE-LEVEL VARIABLES READ AS WHEN THE CALL BEGINS. Each datum BY PROGRAM (the guide's laid-datum.mjs) off the statement by which the dump's own 'gosem.cut.vars' lays the variable. In a bare row this is a premise. The card (YtmokjopffgmfjaaGreatDoorCards.lean) ties it to the program's text. -/
def laid_postroad_deflate_firstOrder {H : Type} : DataW H := .agg [.lit (.int .i64 16), .lit (.int .i64 17), .lit (.int .i64 18), .lit (.int .i64 0), .lit (.int .i64 8), .lit (.int .i64 7), .lit (.int .i64 9), .lit (.int .i64 6), .lit (.int .i64 10), .lit (.int .i64 5), .lit (.int .i64 11), .lit (.int .i64 4), .lit (.int .i64 12), .lit (.int .i64 3), .lit (.int .i64 13), .lit (.int .i64 2), .lit (.int .i64 14), .lit (.int .i64 1), .lit (.int .i64 15)]
def laid_postroad_inflate_firstOrder {H : Type} : DataW H := .agg [.lit (.int .i64 16), .lit (.int .i64 17), .lit (.int .i64 18), .lit (.int .i64 0), .lit (.int .i64 8), .lit (.int .i64 7), .lit (.int .i64 9), .lit (.int .i64 6), .lit (.int .i64 10), .lit (.int .i64 5), .lit (.int .i64 11), .lit (.int .i64 4), .lit (.int .i64 12), .lit (.int .i64 3), .lit (.int .i64 13), .lit (.int .i64 2), .lit (.int .i64 14), .lit (.int .i64 1), .lit (.int .i64 15)]
def laid_postroad_batch_fieldBytes {H : Type} : DataW H := .agg [.lit (.int .i64 8), .lit (.int .i64 2), .lit (.int .i64 4), .lit (.int .i64 4), .lit (.int .i64 4), .lit (.int .i64 1), .lit (.int .i64 2), .lit (.int .i64 4)]

/-- 'postroadlaw11.SegmentNobody': WHATEVER THE INPUT: true; the input reads as it did. -/
def segmentNobodySpec : ChangeSpec := { name := "segmentNobody", fn := fun _ => fun
  | [d1, d2] => { results := [.lit (.bool true)], args := [d1, d2] }
  | _ => none }
def segmentNobodyRow : OpenClaim := { program := "ytmokjopffgmfjaagreatdoor", sum := "ae636eabd5d86f2ff2c5b2e5b2d123ba144bf0dda7e0169e12ce16e4851c6870", func := "postroad/postroadlaw11.SegmentNobody", spec := "segmentNobody", unfollowed := true, recurses := true, named := ["postroad/batch.fieldBytes", "postroad/deflate.firstOrder", "postroad/inflate.firstOrder"], plainKeys := false, apart := false, laid := [("postroad/deflate.firstOrder", laid_postroad_deflate_firstOrder), ("postroad/inflate.firstOrder", laid_postroad_inflate_firstOrder), ("postroad/batch.fieldBytes", laid_postroad_batch_fieldBytes)] }
def SegmentNobodySaid : Prop := segmentNobodyRow.holds Tryz.pinned (OpenSpec.ofChange segmentNobodySpec)

/-- ITS FALSE NEIGHBOUR: 'it returns false'. Refute it at one input. -/
def segmentNobodyWrong : ChangeSpec := { name := "segmentNobody", fn := fun _ => fun
  | [d1, d2] => { results := [.lit (.bool false)], args := [d1, d2] }
  | _ => none }
def SegmentNobodyWrongFalsely : Prop := segmentNobodyRow.holds Tryz.pinned (OpenSpec.ofChange segmentNobodyWrong)

/-- 'postroadlaw11.SegmentFull': WHATEVER THE INPUT: true; the input reads as it did. -/
def segmentFullSpec : ChangeSpec := { name := "segmentFull", fn := fun _ => fun
  | [d1, d2] => { results := [.lit (.bool true)], args := [d1, d2] }
  | _ => none }
def segmentFullRow : OpenClaim := { program := "ytmokjopffgmfjaagreatdoor", sum := "ae636eabd5d86f2ff2c5b2e5b2d123ba144bf0dda7e0169e12ce16e4851c6870", func := "postroad/postroadlaw11.SegmentFull", spec := "segmentFull", unfollowed := true, recurses := true, named := ["postroad/batch.fieldBytes", "postroad/deflate.firstOrder", "postroad/inflate.firstOrder"], plainKeys := false, apart := false, laid := [("postroad/deflate.firstOrder", laid_postroad_deflate_firstOrder), ("postroad/inflate.firstOrder", laid_postroad_inflate_firstOrder), ("postroad/batch.fieldBytes", laid_postroad_batch_fieldBytes)] }
def SegmentFullSaid : Prop := segmentFullRow.holds Tryz.pinned (OpenSpec.ofChange segmentFullSpec)

/-- ITS FALSE NEIGHBOUR: 'it returns false'. Refute it at one input. -/
def segmentFullWrong : ChangeSpec := { name := "segmentFull", fn := fun _ => fun
  | [d1, d2] => { results := [.lit (.bool false)], args := [d1, d2] }
  | _ => none }
def SegmentFullWrongFalsely : Prop := segmentFullRow.holds Tryz.pinned (OpenSpec.ofChange segmentFullWrong)

/-- 'postroadlaw11.SegmentOrder': WHATEVER THE INPUT: true; the input reads as it did. -/
def segmentOrderSpec : ChangeSpec := { name := "segmentOrder", fn := fun _ => fun
  | [d1, d2, d3] => { results := [.lit (.bool true)], args := [d1, d2, d3] }
  | _ => none }
def segmentOrderRow : OpenClaim := { program := "ytmokjopffgmfjaagreatdoor", sum := "ae636eabd5d86f2ff2c5b2e5b2d123ba144bf0dda7e0169e12ce16e4851c6870", func := "postroad/postroadlaw11.SegmentOrder", spec := "segmentOrder", unfollowed := true, recurses := true, named := ["postroad/batch.fieldBytes", "postroad/deflate.firstOrder", "postroad/inflate.firstOrder"], plainKeys := false, apart := false, laid := [("postroad/deflate.firstOrder", laid_postroad_deflate_firstOrder), ("postroad/inflate.firstOrder", laid_postroad_inflate_firstOrder), ("postroad/batch.fieldBytes", laid_postroad_batch_fieldBytes)] }
def SegmentOrderSaid : Prop := segmentOrderRow.holds Tryz.pinned (OpenSpec.ofChange segmentOrderSpec)

/-- ITS FALSE NEIGHBOUR: 'it returns false'. Refute it at one input. -/
def segmentOrderWrong : ChangeSpec := { name := "segmentOrder", fn := fun _ => fun
  | [d1, d2, d3] => { results := [.lit (.bool false)], args := [d1, d2, d3] }
  | _ => none }
def SegmentOrderWrongFalsely : Prop := segmentOrderRow.holds Tryz.pinned (OpenSpec.ofChange segmentOrderWrong)

/- THE SECOND FORM. 'bulk': how many values and letters a reading holds, each counted each time it is reached (what is shared counts as often as it is met; a slice's spare places count too). A statement '..UptoSaid' is the law's where the arguments, and the package variables that the reading takes, are together of bulk at most 1048576: NARROWER than '..Said'. Prove '..Said' where nothing that the law and all that it calls make is longer than what came in: it says more and counts as full. Else prove '..UptoSaid'. A law counts once. -/
mutual
def uptoBulk {H : Type} : DataW H → Nat
  | .lit (.string bytes) => bytes.length + 1
  | .lit _ => 1
  | .nil => 1
  | .ptr d => uptoBulk d + 1
  | .slice elems spare => uptoBulkAll elems + uptoBulkAll spare + 1
  | .agg parts => uptoBulkAll parts + 1
  | .iface _ d => uptoBulk d + 1
  | .map entries => uptoBulkEntries entries + 1
  | .held _ => 1
def uptoBulkAll {H : Type} : List (DataW H) → Nat
  | [] => 0
  | d :: r => uptoBulk d + uptoBulkAll r
def uptoBulkEntries {H : Type} : List (Lit × DataW H) → Nat
  | [] => 0
  | x :: r => uptoBulkEntry x + uptoBulkEntries r
def uptoBulkEntry {H : Type} : Lit × DataW H → Nat
  | (.string bytes, d) => bytes.length + uptoBulk d + 1
  | (_, d) => uptoBulk d + 1
 end
def uptoSmall : (H : Type) → List (DataW H) → Bool := fun _ ds => decide (uptoBulkAll ds ≤ 1048576)
def OpenSpec.upto (s : _root_.Go.ChangeSpec) : _root_.Go.OpenSpec := { _root_.Go.OpenSpec.ofChange s with cond := some uptoSmall }

/-- 'postroadlaw11.SegmentNobody', WHERE WHAT IT READS IS OF BULK AT MOST 1048576: true; the input reads as it did. -/
def segmentNobodyUptoRow : OpenClaim := { program := "ytmokjopffgmfjaagreatdoor", sum := "ae636eabd5d86f2ff2c5b2e5b2d123ba144bf0dda7e0169e12ce16e4851c6870", func := "postroad/postroadlaw11.SegmentNobody", spec := "segmentNobody", unfollowed := true, recurses := true, named := ["postroad/batch.fieldBytes", "postroad/deflate.firstOrder", "postroad/inflate.firstOrder"], plainKeys := false, apart := false, laid := [("postroad/deflate.firstOrder", laid_postroad_deflate_firstOrder), ("postroad/inflate.firstOrder", laid_postroad_inflate_firstOrder), ("postroad/batch.fieldBytes", laid_postroad_batch_fieldBytes)], narrowed := true }
def SegmentNobodyUptoSaid : Prop := segmentNobodyUptoRow.holds Tryz.pinned (OpenSpec.upto segmentNobodySpec)

/-- 'postroadlaw11.SegmentFull', WHERE WHAT IT READS IS OF BULK AT MOST 1048576: true; the input reads as it did. -/
def segmentFullUptoRow : OpenClaim := { program := "ytmokjopffgmfjaagreatdoor", sum := "ae636eabd5d86f2ff2c5b2e5b2d123ba144bf0dda7e0169e12ce16e4851c6870", func := "postroad/postroadlaw11.SegmentFull", spec := "segmentFull", unfollowed := true, recurses := true, named := ["postroad/batch.fieldBytes", "postroad/deflate.firstOrder", "postroad/inflate.firstOrder"], plainKeys := false, apart := false, laid := [("postroad/deflate.firstOrder", laid_postroad_deflate_firstOrder), ("postroad/inflate.firstOrder", laid_postroad_inflate_firstOrder), ("postroad/batch.fieldBytes", laid_postroad_batch_fieldBytes)], narrowed := true }
def SegmentFullUptoSaid : Prop := segmentFullUptoRow.holds Tryz.pinned (OpenSpec.upto segmentFullSpec)

/-- 'postroadlaw11.SegmentOrder', WHERE WHAT IT READS IS OF BULK AT MOST 1048576: true; the input reads as it did. -/
def segmentOrderUptoRow : OpenClaim := { program := "ytmokjopffgmfjaagreatdoor", sum := "ae636eabd5d86f2ff2c5b2e5b2d123ba144bf0dda7e0169e12ce16e4851c6870", func := "postroad/postroadlaw11.SegmentOrder", spec := "segmentOrder", unfollowed := true, recurses := true, named := ["postroad/batch.fieldBytes", "postroad/deflate.firstOrder", "postroad/inflate.firstOrder"], plainKeys := false, apart := false, laid := [("postroad/deflate.firstOrder", laid_postroad_deflate_firstOrder), ("postroad/inflate.firstOrder", laid_postroad_inflate_firstOrder), ("postroad/batch.fieldBytes", laid_postroad_batch_fieldBytes)], narrowed := true }
def SegmentOrderUptoSaid : Prop := segmentOrderUptoRow.holds Tryz.pinned (OpenSpec.upto segmentOrderSpec)

end Rows
end Go.Proofs.YtmokjopffgmfjaaGreatDoor
