/-
  No cell of these rows narrows 'for every input' (looked for: loops, veiled, ifaces, maps, wideKeys, modest, calm, conditions, laid).
  DERIVED. THE GIVEN ROWS OF THIS SEAT. 5 by the template 'for every input the law returns true; each argument reads behind the call as it read before'; 0 by the template 'total and deterministic' (their statements: YtklipommocijaaaTotals.lean).
  GIVEN WITH THE SEED: the statements are not yours to turn. If you find one false, say at which input.
  Laid BY PROGRAM, IN A SANDBOX (cutbox-rows.mjs): the forced cells as the released guide's own fill.sh prints them over the translation 0495c999976fdd2f… (all of the seat's roots in one cut). By AI agents, Wed Nov 11 2026. No macro, syntax, notation, axiom, sorry.
-/
import Derived.Test.YtklipommocijaaaChecked
import GoSem.Claim
import GoSem.ClaimJoined
import GoSem.ClaimMapViews
import Derived.JoinedTies
import Derived.KernelRfl
namespace Go.Proofs.Ytklipommocijaaa
/- THE CELL 'sum', in the pinned program and in every row, IS THE sha256 OF THE DUMP (.gsa) THAT YtklipommocijaaaProg.lean LOADS. Nothing in Lean hashes anything: it is a label: what it is worth is what the hold of that sum in a sandbox is worth. -/
noncomputable def Try.pinned : Pinned := { name := "ytklipommocijaaa", sum := "0495c999976fdd2f8f31241f2a3096c6ec3c74f4f1d355647f169232a92ca77f", checked := Try.checked }
namespace Rows
def none {H : Type} : Left H := { results := [], args := [] }

/-- 'postroadlaw03.HuffLengths': WHATEVER THE INPUT: true; the input reads as it did. -/
def huffLengthsSpec : ChangeSpec := { name := "huffLengths", fn := fun _ => fun
  | [d1, d2] => { results := [.lit (.bool true)], args := [d1, d2] }
  | _ => none }
def huffLengthsRow : OpenClaim := { program := "ytklipommocijaaa", sum := "0495c999976fdd2f8f31241f2a3096c6ec3c74f4f1d355647f169232a92ca77f", func := "postroad/postroadlaw03.HuffLengths", spec := "huffLengths", unfollowed := true, recurses := true, apart := false }
def HuffLengthsSaid : Prop := huffLengthsRow.holds Try.pinned (OpenSpec.ofChange huffLengthsSpec)

/-- ITS FALSE NEIGHBOUR: 'it returns false'. Refute it at one input. -/
def huffLengthsWrong : ChangeSpec := { name := "huffLengths", fn := fun _ => fun
  | [d1, d2] => { results := [.lit (.bool false)], args := [d1, d2] }
  | _ => none }
def HuffLengthsWrongFalsely : Prop := huffLengthsRow.holds Try.pinned (OpenSpec.ofChange huffLengthsWrong)

/-- 'postroadlaw03.HuffWrites': WHATEVER THE INPUT: true; the input reads as it did. -/
def huffWritesSpec : ChangeSpec := { name := "huffWrites", fn := fun _ => fun
  | [d1, d2] => { results := [.lit (.bool true)], args := [d1, d2] }
  | _ => none }
def huffWritesRow : OpenClaim := { program := "ytklipommocijaaa", sum := "0495c999976fdd2f8f31241f2a3096c6ec3c74f4f1d355647f169232a92ca77f", func := "postroad/postroadlaw03.HuffWrites", spec := "huffWrites", unfollowed := true, recurses := true, apart := false }
def HuffWritesSaid : Prop := huffWritesRow.holds Try.pinned (OpenSpec.ofChange huffWritesSpec)

/-- ITS FALSE NEIGHBOUR: 'it returns false'. Refute it at one input. -/
def huffWritesWrong : ChangeSpec := { name := "huffWrites", fn := fun _ => fun
  | [d1, d2] => { results := [.lit (.bool false)], args := [d1, d2] }
  | _ => none }
def HuffWritesWrongFalsely : Prop := huffWritesRow.holds Try.pinned (OpenSpec.ofChange huffWritesWrong)

/-- 'postroadlaw03.HuffNobody': WHATEVER THE INPUT: true; the input reads as it did. -/
def huffNobodySpec : ChangeSpec := { name := "huffNobody", fn := fun _ => fun
  | [d] => { results := [.lit (.bool true)], args := [d] }
  | _ => none }
def huffNobodyRow : OpenClaim := { program := "ytklipommocijaaa", sum := "0495c999976fdd2f8f31241f2a3096c6ec3c74f4f1d355647f169232a92ca77f", func := "postroad/postroadlaw03.HuffNobody", spec := "huffNobody", unfollowed := true, recurses := true, apart := false }
def HuffNobodySaid : Prop := huffNobodyRow.holds Try.pinned (OpenSpec.ofChange huffNobodySpec)

/-- ITS FALSE NEIGHBOUR: 'it returns false'. Refute it at one input. -/
def huffNobodyWrong : ChangeSpec := { name := "huffNobody", fn := fun _ => fun
  | [d] => { results := [.lit (.bool false)], args := [d] }
  | _ => none }
def HuffNobodyWrongFalsely : Prop := huffNobodyRow.holds Try.pinned (OpenSpec.ofChange huffNobodyWrong)

/-- 'postroadlaw03.HuffOrder': WHATEVER THE INPUT: true; the input reads as it did. -/
def huffOrderSpec : ChangeSpec := { name := "huffOrder", fn := fun _ => fun
  | [d1, d2] => { results := [.lit (.bool true)], args := [d1, d2] }
  | _ => none }
def huffOrderRow : OpenClaim := { program := "ytklipommocijaaa", sum := "0495c999976fdd2f8f31241f2a3096c6ec3c74f4f1d355647f169232a92ca77f", func := "postroad/postroadlaw03.HuffOrder", spec := "huffOrder", unfollowed := true, recurses := true, apart := false }
def HuffOrderSaid : Prop := huffOrderRow.holds Try.pinned (OpenSpec.ofChange huffOrderSpec)

/-- ITS FALSE NEIGHBOUR: 'it returns false'. Refute it at one input. -/
def huffOrderWrong : ChangeSpec := { name := "huffOrder", fn := fun _ => fun
  | [d1, d2] => { results := [.lit (.bool false)], args := [d1, d2] }
  | _ => none }
def HuffOrderWrongFalsely : Prop := huffOrderRow.holds Try.pinned (OpenSpec.ofChange huffOrderWrong)

/-- 'postroadlaw03.HuffWider': WHATEVER THE INPUT: true; the input reads as it did. -/
def huffWiderSpec : ChangeSpec := { name := "huffWider", fn := fun _ => fun
  | [d1, d2, d3] => { results := [.lit (.bool true)], args := [d1, d2, d3] }
  | _ => none }
def huffWiderRow : OpenClaim := { program := "ytklipommocijaaa", sum := "0495c999976fdd2f8f31241f2a3096c6ec3c74f4f1d355647f169232a92ca77f", func := "postroad/postroadlaw03.HuffWider", spec := "huffWider", unfollowed := true, recurses := true, apart := false }
def HuffWiderSaid : Prop := huffWiderRow.holds Try.pinned (OpenSpec.ofChange huffWiderSpec)

/-- ITS FALSE NEIGHBOUR: 'it returns false'. Refute it at one input. -/
def huffWiderWrong : ChangeSpec := { name := "huffWider", fn := fun _ => fun
  | [d1, d2, d3] => { results := [.lit (.bool false)], args := [d1, d2, d3] }
  | _ => none }
def HuffWiderWrongFalsely : Prop := huffWiderRow.holds Try.pinned (OpenSpec.ofChange huffWiderWrong)

/- THE SECOND FORM. 'bulk': how many values and letters a reading holds, each counted each time it is reached (what is shared counts as often as it is met; a slice's spare places count too). A statement '..UptoSaid' is the law's where the arguments, and the package variables that the reading takes, are together of bulk at most 1048576: NARROWER than '..Said'. Prove '..Said' where nothing that the law and all that it calls make is longer than what came in: it says more and counts as full. Else prove '..UptoSaid'. A law counts once. -/
mutual
def uptoBulk {H : Type} : DataW H → Nat
  | .lit (.string bytes) => bytes.length + 1
  | .lit _ => 1
  | .nil => 1
  | .ptr d => uptoBulk d + 1
  | .slice elems spare => uptoBulkAll elems + uptoBulkAll spare + 1
  | .agg parts => uptoBulkAll parts + 1
  | .iface _ d => uptoBulk d + 1
  | .map entries => uptoBulkEntries entries + 1
  | .held _ => 1
def uptoBulkAll {H : Type} : List (DataW H) → Nat
  | [] => 0
  | d :: r => uptoBulk d + uptoBulkAll r
def uptoBulkEntries {H : Type} : List (Lit × DataW H) → Nat
  | [] => 0
  | x :: r => uptoBulkEntry x + uptoBulkEntries r
def uptoBulkEntry {H : Type} : Lit × DataW H → Nat
  | (.string bytes, d) => bytes.length + uptoBulk d + 1
  | (_, d) => uptoBulk d + 1
 end
def uptoSmall : (H : Type) → List (DataW H) → Bool := fun _ ds => decide (uptoBulkAll ds ≤ 1048576)
def OpenSpec.upto (s : _root_.Go.ChangeSpec) : _root_.Go.OpenSpec := { _root_.Go.OpenSpec.ofChange s with cond := some uptoSmall }

/-- 'postroadlaw03.HuffLengths', WHERE WHAT IT READS IS OF BULK AT MOST 1048576: true; the input reads as it did. -/
def huffLengthsUptoRow : OpenClaim := { program := "ytklipommocijaaa", sum := "0495c999976fdd2f8f31241f2a3096c6ec3c74f4f1d355647f169232a92ca77f", func := "postroad/postroadlaw03.HuffLengths", spec := "huffLengths", unfollowed := true, recurses := true, apart := false, narrowed := true }
def HuffLengthsUptoSaid : Prop := huffLengthsUptoRow.holds Try.pinned (OpenSpec.upto huffLengthsSpec)

/-- 'postroadlaw03.HuffWrites', WHERE WHAT IT READS IS OF BULK AT MOST 1048576: true; the input reads as it did. -/
def huffWritesUptoRow : OpenClaim := { program := "ytklipommocijaaa", sum := "0495c999976fdd2f8f31241f2a3096c6ec3c74f4f1d355647f169232a92ca77f", func := "postroad/postroadlaw03.HuffWrites", spec := "huffWrites", unfollowed := true, recurses := true, apart := false, narrowed := true }
def HuffWritesUptoSaid : Prop := huffWritesUptoRow.holds Try.pinned (OpenSpec.upto huffWritesSpec)

/-- 'postroadlaw03.HuffNobody', WHERE WHAT IT READS IS OF BULK AT MOST 1048576: true; the input reads as it did. -/
def huffNobodyUptoRow : OpenClaim := { program := "ytklipommocijaaa", sum := "0495c999976fdd2f8f31241f2a3096c6ec3c74f4f1d355647f169232a92ca77f", func := "postroad/postroadlaw03.HuffNobody", spec := "huffNobody", unfollowed := true, recurses := true, apart := false, narrowed := true }
def HuffNobodyUptoSaid : Prop := huffNobodyUptoRow.holds Try.pinned (OpenSpec.upto huffNobodySpec)

/-- 'postroadlaw03.HuffOrder', WHERE WHAT IT READS IS OF BULK AT MOST 1048576: true; the input reads as it did. -/
def huffOrderUptoRow : OpenClaim := { program := "ytklipommocijaaa", sum := "0495c999976fdd2f8f31241f2a3096c6ec3c74f4f1d355647f169232a92ca77f", func := "postroad/postroadlaw03.HuffOrder", spec := "huffOrder", unfollowed := true, recurses := true, apart := false, narrowed := true }
def HuffOrderUptoSaid : Prop := huffOrderUptoRow.holds Try.pinned (OpenSpec.upto huffOrderSpec)

/-- 'postroadlaw03.HuffWider', WHERE WHAT IT READS IS OF BULK AT MOST 1048576: true; the input reads as it did. -/
def huffWiderUptoRow : OpenClaim := { program := "ytklipommocijaaa", sum := "0495c999976fdd2f8f31241f2a3096c6ec3c74f4f1d355647f169232a92ca77f", func := "postroad/postroadlaw03.HuffWider", spec := "huffWider", unfollowed := true, recurses := true, apart := false, narrowed := true }
def HuffWiderUptoSaid : Prop := huffWiderUptoRow.holds Try.pinned (OpenSpec.upto huffWiderSpec)

end Rows
end Go.Proofs.Ytklipommocijaaa
