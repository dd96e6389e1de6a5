/-
  NARROWER THAN 'FOR EVERY INPUT', by the rows' own cells (each row's printed sentence says how): InflateReads: laid · InflateTail: laid · InflateMost: laid · InflateSays: laid · InflateStored: laid · InflateCuts: laid.
  DERIVED. THE GIVEN ROWS OF THIS SEAT. 6 by the template 'for every input the law returns true; each argument reads behind the call as it read before'; 0 by the template 'total and deterministic' (their statements: YtchjnfckcfikkaaDoorTotals.lean).
  GIVEN WITH THE SEED: the statements are not yours to turn. If you find one false, say at which input.
  Laid BY PROGRAM, IN A SANDBOX (cutbox-rows.mjs): the forced cells as the released guide's own fill.sh prints them over the translation 99d77cc0a5f93612… (all of the seat's roots in one cut). By AI agents, Wed Nov 11 2026. No macro, syntax, notation, axiom, sorry.
-/
import Derived.Test.YtchjnfckcfikkaaDoorChecked
import GoSem.Claim
import GoSem.ClaimJoined
import GoSem.ClaimMapViews
import Derived.JoinedTies
import Derived.KernelRfl
namespace Go.Proofs.YtchjnfckcfikkaaDoor
/- THE CELL 'sum', in the pinned program and in every row, IS THE sha256 OF THE DUMP (.gsa) THAT YtchjnfckcfikkaaDoorProg.lean LOADS. Nothing in Lean hashes anything: it is a label: what it is worth is what the hold of that sum in a sandbox is worth. -/
noncomputable def Tryd.pinned : Pinned := { name := "ytchjnfckcfikkaadoor", sum := "99d77cc0a5f936125cc0225742fe530c24670432d30f69751a7bed1f022b108b", checked := Tryd.checked }
namespace Rows
def none {H : Type} : Left H := { results := [], args := [] }

/- WHAT THE LISTED PACKAGE-LEVEL VARIABLES READ AS WHEN THE CALL BEGINS. Each datum BY PROGRAM (the guide's laid-datum.mjs) off the statement by which the dump's own 'gosem.cut.vars' lays the variable. In a bare row this is a premise. The card (YtchjnfckcfikkaaDoorCards.lean) ties it to the program's text. -/
def laid_postroad_inflate_firstOrder {H : Type} : DataW H := .agg [.lit (.int .i64 16), .lit (.int .i64 17), .lit (.int .i64 18), .lit (.int .i64 0), .lit (.int .i64 8), .lit (.int .i64 7), .lit (.int .i64 9), .lit (.int .i64 6), .lit (.int .i64 10), .lit (.int .i64 5), .lit (.int .i64 11), .lit (.int .i64 4), .lit (.int .i64 12), .lit (.int .i64 3), .lit (.int .i64 13), .lit (.int .i64 2), .lit (.int .i64 14), .lit (.int .i64 1), .lit (.int .i64 15)]

/-- 'postroadlaw04.InflateReads': WHATEVER THE INPUT: true; the input reads as it did. -/
def inflateReadsSpec : ChangeSpec := { name := "inflateReads", fn := fun _ => fun
  | [d1, d2] => { results := [.lit (.bool true)], args := [d1, d2] }
  | _ => none }
def inflateReadsRow : OpenClaim := { program := "ytchjnfckcfikkaadoor", sum := "99d77cc0a5f936125cc0225742fe530c24670432d30f69751a7bed1f022b108b", func := "postroad/postroadlaw04.InflateReads", spec := "inflateReads", unfollowed := true, recurses := true, named := ["postroad/inflate.firstOrder"], apart := false, laid := [("postroad/inflate.firstOrder", laid_postroad_inflate_firstOrder)] }
def InflateReadsSaid : Prop := inflateReadsRow.holds Tryd.pinned (OpenSpec.ofChange inflateReadsSpec)

/-- ITS FALSE NEIGHBOUR: 'it returns false'. Refute it at one input. -/
def inflateReadsWrong : ChangeSpec := { name := "inflateReads", fn := fun _ => fun
  | [d1, d2] => { results := [.lit (.bool false)], args := [d1, d2] }
  | _ => none }
def InflateReadsWrongFalsely : Prop := inflateReadsRow.holds Tryd.pinned (OpenSpec.ofChange inflateReadsWrong)

/-- 'postroadlaw04.InflateTail': WHATEVER THE INPUT: true; the input reads as it did. -/
def inflateTailSpec : ChangeSpec := { name := "inflateTail", fn := fun _ => fun
  | [d1, d2] => { results := [.lit (.bool true)], args := [d1, d2] }
  | _ => none }
def inflateTailRow : OpenClaim := { program := "ytchjnfckcfikkaadoor", sum := "99d77cc0a5f936125cc0225742fe530c24670432d30f69751a7bed1f022b108b", func := "postroad/postroadlaw04.InflateTail", spec := "inflateTail", unfollowed := true, recurses := true, named := ["postroad/inflate.firstOrder"], apart := false, laid := [("postroad/inflate.firstOrder", laid_postroad_inflate_firstOrder)] }
def InflateTailSaid : Prop := inflateTailRow.holds Tryd.pinned (OpenSpec.ofChange inflateTailSpec)

/-- ITS FALSE NEIGHBOUR: 'it returns false'. Refute it at one input. -/
def inflateTailWrong : ChangeSpec := { name := "inflateTail", fn := fun _ => fun
  | [d1, d2] => { results := [.lit (.bool false)], args := [d1, d2] }
  | _ => none }
def InflateTailWrongFalsely : Prop := inflateTailRow.holds Tryd.pinned (OpenSpec.ofChange inflateTailWrong)

/-- 'postroadlaw04.InflateMost': WHATEVER THE INPUT: true; the input reads as it did. -/
def inflateMostSpec : ChangeSpec := { name := "inflateMost", fn := fun _ => fun
  | [d1, d2] => { results := [.lit (.bool true)], args := [d1, d2] }
  | _ => none }
def inflateMostRow : OpenClaim := { program := "ytchjnfckcfikkaadoor", sum := "99d77cc0a5f936125cc0225742fe530c24670432d30f69751a7bed1f022b108b", func := "postroad/postroadlaw04.InflateMost", spec := "inflateMost", unfollowed := true, recurses := true, named := ["postroad/inflate.firstOrder"], apart := false, laid := [("postroad/inflate.firstOrder", laid_postroad_inflate_firstOrder)] }
def InflateMostSaid : Prop := inflateMostRow.holds Tryd.pinned (OpenSpec.ofChange inflateMostSpec)

/-- ITS FALSE NEIGHBOUR: 'it returns false'. Refute it at one input. -/
def inflateMostWrong : ChangeSpec := { name := "inflateMost", fn := fun _ => fun
  | [d1, d2] => { results := [.lit (.bool false)], args := [d1, d2] }
  | _ => none }
def InflateMostWrongFalsely : Prop := inflateMostRow.holds Tryd.pinned (OpenSpec.ofChange inflateMostWrong)

/-- 'postroadlaw04.InflateSays': WHATEVER THE INPUT: true; the input reads as it did. -/
def inflateSaysSpec : ChangeSpec := { name := "inflateSays", fn := fun _ => fun
  | [d] => { results := [.lit (.bool true)], args := [d] }
  | _ => none }
def inflateSaysRow : OpenClaim := { program := "ytchjnfckcfikkaadoor", sum := "99d77cc0a5f936125cc0225742fe530c24670432d30f69751a7bed1f022b108b", func := "postroad/postroadlaw04.InflateSays", spec := "inflateSays", unfollowed := true, recurses := true, named := ["postroad/inflate.firstOrder"], apart := false, laid := [("postroad/inflate.firstOrder", laid_postroad_inflate_firstOrder)] }
def InflateSaysSaid : Prop := inflateSaysRow.holds Tryd.pinned (OpenSpec.ofChange inflateSaysSpec)

/-- ITS FALSE NEIGHBOUR: 'it returns false'. Refute it at one input. -/
def inflateSaysWrong : ChangeSpec := { name := "inflateSays", fn := fun _ => fun
  | [d] => { results := [.lit (.bool false)], args := [d] }
  | _ => none }
def InflateSaysWrongFalsely : Prop := inflateSaysRow.holds Tryd.pinned (OpenSpec.ofChange inflateSaysWrong)

/-- 'postroadlaw04.InflateStored': WHATEVER THE INPUT: true; the input reads as it did. -/
def inflateStoredSpec : ChangeSpec := { name := "inflateStored", fn := fun _ => fun
  | [d] => { results := [.lit (.bool true)], args := [d] }
  | _ => none }
def inflateStoredRow : OpenClaim := { program := "ytchjnfckcfikkaadoor", sum := "99d77cc0a5f936125cc0225742fe530c24670432d30f69751a7bed1f022b108b", func := "postroad/postroadlaw04.InflateStored", spec := "inflateStored", unfollowed := true, recurses := true, named := ["postroad/inflate.firstOrder"], apart := false, laid := [("postroad/inflate.firstOrder", laid_postroad_inflate_firstOrder)] }
def InflateStoredSaid : Prop := inflateStoredRow.holds Tryd.pinned (OpenSpec.ofChange inflateStoredSpec)

/-- ITS FALSE NEIGHBOUR: 'it returns false'. Refute it at one input. -/
def inflateStoredWrong : ChangeSpec := { name := "inflateStored", fn := fun _ => fun
  | [d] => { results := [.lit (.bool false)], args := [d] }
  | _ => none }
def InflateStoredWrongFalsely : Prop := inflateStoredRow.holds Tryd.pinned (OpenSpec.ofChange inflateStoredWrong)

/-- 'postroadlaw04.InflateCuts': WHATEVER THE INPUT: true; the input reads as it did. -/
def inflateCutsSpec : ChangeSpec := { name := "inflateCuts", fn := fun _ => fun
  | [d1, d2] => { results := [.lit (.bool true)], args := [d1, d2] }
  | _ => none }
def inflateCutsRow : OpenClaim := { program := "ytchjnfckcfikkaadoor", sum := "99d77cc0a5f936125cc0225742fe530c24670432d30f69751a7bed1f022b108b", func := "postroad/postroadlaw04.InflateCuts", spec := "inflateCuts", unfollowed := true, recurses := true, named := ["postroad/inflate.firstOrder"], apart := false, laid := [("postroad/inflate.firstOrder", laid_postroad_inflate_firstOrder)] }
def InflateCutsSaid : Prop := inflateCutsRow.holds Tryd.pinned (OpenSpec.ofChange inflateCutsSpec)

/-- ITS FALSE NEIGHBOUR: 'it returns false'. Refute it at one input. -/
def inflateCutsWrong : ChangeSpec := { name := "inflateCuts", fn := fun _ => fun
  | [d1, d2] => { results := [.lit (.bool false)], args := [d1, d2] }
  | _ => none }
def InflateCutsWrongFalsely : Prop := inflateCutsRow.holds Tryd.pinned (OpenSpec.ofChange inflateCutsWrong)

/- THE SECOND FORM. 'bulk': how many values and letters a reading holds, each counted each time it is reached (what is shared counts as often as it is met; a slice's spare places count too). A statement '..UptoSaid' is the law's where the arguments, and the package variables that the reading takes, are together of bulk at most 1048576: NARROWER than '..Said'. Prove '..Said' where nothing that the law and all that it calls make is longer than what came in: it says more and counts as full. Else prove '..UptoSaid'. A law counts once. -/
mutual
def uptoBulk {H : Type} : DataW H → Nat
  | .lit (.string bytes) => bytes.length + 1
  | .lit _ => 1
  | .nil => 1
  | .ptr d => uptoBulk d + 1
  | .slice elems spare => uptoBulkAll elems + uptoBulkAll spare + 1
  | .agg parts => uptoBulkAll parts + 1
  | .iface _ d => uptoBulk d + 1
  | .map entries => uptoBulkEntries entries + 1
  | .held _ => 1
def uptoBulkAll {H : Type} : List (DataW H) → Nat
  | [] => 0
  | d :: r => uptoBulk d + uptoBulkAll r
def uptoBulkEntries {H : Type} : List (Lit × DataW H) → Nat
  | [] => 0
  | x :: r => uptoBulkEntry x + uptoBulkEntries r
def uptoBulkEntry {H : Type} : Lit × DataW H → Nat
  | (.string bytes, d) => bytes.length + uptoBulk d + 1
  | (_, d) => uptoBulk d + 1
 end
def uptoSmall : (H : Type) → List (DataW H) → Bool := fun _ ds => decide (uptoBulkAll ds ≤ 1048576)
def OpenSpec.upto (s : _root_.Go.ChangeSpec) : _root_.Go.OpenSpec := { _root_.Go.OpenSpec.ofChange s with cond := some uptoSmall }

/-- 'postroadlaw04.InflateReads', WHERE WHAT IT READS IS OF BULK AT MOST 1048576: true; the input reads as it did. -/
def inflateReadsUptoRow : OpenClaim := { program := "ytchjnfckcfikkaadoor", sum := "99d77cc0a5f936125cc0225742fe530c24670432d30f69751a7bed1f022b108b", func := "postroad/postroadlaw04.InflateReads", spec := "inflateReads", unfollowed := true, recurses := true, named := ["postroad/inflate.firstOrder"], apart := false, laid := [("postroad/inflate.firstOrder", laid_postroad_inflate_firstOrder)], narrowed := true }
def InflateReadsUptoSaid : Prop := inflateReadsUptoRow.holds Tryd.pinned (OpenSpec.upto inflateReadsSpec)

/-- 'postroadlaw04.InflateTail', WHERE WHAT IT READS IS OF BULK AT MOST 1048576: true; the input reads as it did. -/
def inflateTailUptoRow : OpenClaim := { program := "ytchjnfckcfikkaadoor", sum := "99d77cc0a5f936125cc0225742fe530c24670432d30f69751a7bed1f022b108b", func := "postroad/postroadlaw04.InflateTail", spec := "inflateTail", unfollowed := true, recurses := true, named := ["postroad/inflate.firstOrder"], apart := false, laid := [("postroad/inflate.firstOrder", laid_postroad_inflate_firstOrder)], narrowed := true }
def InflateTailUptoSaid : Prop := inflateTailUptoRow.holds Tryd.pinned (OpenSpec.upto inflateTailSpec)

/-- 'postroadlaw04.InflateMost', WHERE WHAT IT READS IS OF BULK AT MOST 1048576: true; the input reads as it did. -/
def inflateMostUptoRow : OpenClaim := { program := "ytchjnfckcfikkaadoor", sum := "99d77cc0a5f936125cc0225742fe530c24670432d30f69751a7bed1f022b108b", func := "postroad/postroadlaw04.InflateMost", spec := "inflateMost", unfollowed := true, recurses := true, named := ["postroad/inflate.firstOrder"], apart := false, laid := [("postroad/inflate.firstOrder", laid_postroad_inflate_firstOrder)], narrowed := true }
def InflateMostUptoSaid : Prop := inflateMostUptoRow.holds Tryd.pinned (OpenSpec.upto inflateMostSpec)

/-- 'postroadlaw04.InflateSays', WHERE WHAT IT READS IS OF BULK AT MOST 1048576: true; the input reads as it did. -/
def inflateSaysUptoRow : OpenClaim := { program := "ytchjnfckcfikkaadoor", sum := "99d77cc0a5f936125cc0225742fe530c24670432d30f69751a7bed1f022b108b", func := "postroad/postroadlaw04.InflateSays", spec := "inflateSays", unfollowed := true, recurses := true, named := ["postroad/inflate.firstOrder"], apart := false, laid := [("postroad/inflate.firstOrder", laid_postroad_inflate_firstOrder)], narrowed := true }
def InflateSaysUptoSaid : Prop := inflateSaysUptoRow.holds Tryd.pinned (OpenSpec.upto inflateSaysSpec)

/-- 'postroadlaw04.InflateStored', WHERE WHAT IT READS IS OF BULK AT MOST 1048576: true; the input reads as it did. -/
def inflateStoredUptoRow : OpenClaim := { program := "ytchjnfckcfikkaadoor", sum := "99d77cc0a5f936125cc0225742fe530c24670432d30f69751a7bed1f022b108b", func := "postroad/postroadlaw04.InflateStored", spec := "inflateStored", unfollowed := true, recurses := true, named := ["postroad/inflate.firstOrder"], apart := false, laid := [("postroad/inflate.firstOrder", laid_postroad_inflate_firstOrder)], narrowed := true }
def InflateStoredUptoSaid : Prop := inflateStoredUptoRow.holds Tryd.pinned (OpenSpec.upto inflateStoredSpec)

/-- 'postroadlaw04.InflateCuts', WHERE WHAT IT READS IS OF BULK AT MOST 1048576: true; the input reads as it did. -/
def inflateCutsUptoRow : OpenClaim := { program := "ytchjnfckcfikkaadoor", sum := "99d77cc0a5f936125cc0225742fe530c24670432d30f69751a7bed1f022b108b", func := "postroad/postroadlaw04.InflateCuts", spec := "inflateCuts", unfollowed := true, recurses := true, named := ["postroad/inflate.firstOrder"], apart := false, laid := [("postroad/inflate.firstOrder", laid_postroad_inflate_firstOrder)], narrowed := true }
def InflateCutsUptoSaid : Prop := inflateCutsUptoRow.holds Tryd.pinned (OpenSpec.upto inflateCutsSpec)

end Rows
end Go.Proofs.YtchjnfckcfikkaaDoor
