/- Layer 11: a segment's state. -/
import Derived.Test.YtmokjopffgmfjaaGreatDoorEKtk
namespace Go.Proofs.YtmokjopffgmfjaaGreatDoor
open Go.RowKit
set_option linter.unusedVariables false
set_option maxRecDepth 20000
set_option maxRecDepth 20000

/-- A segment that holds batches, on its disk. -/
structure SS (w : World) (B Bd s d base room cnt : Nat) (nm : ByteArray) (F : List UInt8 → Option (List Nat × Nat)) (l : List BT) (K : List Nat) : Prop where
  sg : SG w B s d nm base (K.map (plAt base l)) (plAt base l l.length)
  vd : V8.VD w Bd d room F cnt (szs l)
  may : V8.May nm
  file : (l = [] ∧ F nm.data.toList = none ∧ cnt = 0) ∨ (FileOf F nm l ∧ l ≠ [])
  ch : chain base l
  ok : allOK l
  mks : Marks l.length K
  hb : base ≤ 65535
theorem SS.below {w w' : World} {B Bd s d base room cnt : Nat} {nm : ByteArray} {F : List UInt8 → Option (List Nat × Nat)} {l : List BT} {K : List Nat} (h : SS w B Bd s d base room cnt nm F l K) (hb : Below w.heap.size w w') : SS w' B Bd s d base room cnt nm F l K :=
  ⟨h.sg.below hb, h.vd.below hb, h.may, h.file, h.ch, h.ok, h.mks, h.hb⟩
theorem SS.len {w : World} {B Bd s d base room cnt : Nat} {nm : ByteArray} {F : List UInt8 → Option (List Nat × Nat)} {l : List BT} {K : List Nat} (h : SS w B Bd s d base room cnt nm F l K) : l.length ≤ 16777216 ∧ szs l ≤ 16777216 := by
  have h1 := h.vd.bounds
  have h2 := len_le_szs l h.ok
  constructor <;> omega
end Go.Proofs.YtmokjopffgmfjaaGreatDoor
