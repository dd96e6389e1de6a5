/- A writer's state in memory, and the frame of its calls. -/
import Derived.Test.YtchjnfckcfikkaaDoorFa
import Derived.Test.YtchjnfckcfikkaaDoorMb
import Derived.Deep.AppendLies
namespace Go.Proofs.YtchjnfckcfikkaaDoor
open Go.RowKit

/-- w' is w but for block b, for rows of element type E from block B on, for draws and for new blocks. -/
structure Fr (E : TypeId) (B b : Nat) (w w' : World) : Prop where
  os : w'.os = w.os
  tape : w'.tape = w.tape
  output : w'.output = w.output
  size : w.heap.size ≤ w'.heap.size
  block : ∀ k, k < w.heap.size → k ≠ b → (k < B ∨ ∀ cur m, w.heap[k]? ≠ some (.cells cur E m)) → w'.heap[k]? = w.heap[k]?
theorem Fr.refl (E : TypeId) (B b : Nat) (w : World) : Fr E B b w w := ⟨rfl, rfl, rfl, Nat.le_refl _, fun _ _ _ _ => rfl⟩
theorem Fr.trans {E : TypeId} {B b : Nat} {u v w : World} (h : Fr E B b u v) (k : Fr E B b v w) : Fr E B b u w :=
  ⟨k.os.trans h.os, k.tape.trans h.tape, k.output.trans h.output, Nat.le_trans h.size k.size, fun i hl hi hc =>
    have e := h.block i hl hi hc
    (k.block i (Nat.lt_of_lt_of_le hl h.size) hi (by rw [e]; exact hc)).trans e⟩
theorem Fr.drewN {E : TypeId} {B b : Nat} {w w' : World} (h : Fr E B b w w') (n : Nat) : Fr E B b w (w'.drewN n) := ⟨h.os, h.tape, h.output, h.size, h.block⟩
theorem Fr.drew {E : TypeId} {B b : Nat} {w w' : World} (h : Fr E B b w w') : Fr E B b w w'.drew := ⟨h.os, h.tape, h.output, h.size, h.block⟩
theorem Fr.only {E : TypeId} {B b : Nat} {w w' : World} (h : Only b w w') : Fr E B b w w' := ⟨h.os, h.tape, h.output, h.size, fun k hl hk _ => h.block k hl hk⟩
theorem Fr.alloc (E : TypeId) (B b : Nat) (w : World) (o : Obj) : Fr E B b w (w.alloc o) :=
  Fr.only (Only.of_below ((Below.refl _ _).alloc (Nat.le_refl _) _))
/-- A store into a row of element type E from B on. -/
theorem Fr.setRow {E : TypeId} {B b g i : Nat} {w : World} {cur : Array Value} {m : Nat × Nat} (hg : w.heap[g]? = some (.cells cur E m)) (hB : B ≤ g) (u : Value) : Fr E B b w (w.setCell ⟨g, i, none⟩ u) :=
  ⟨rfl, rfl, rfl, by simp [World.setCell], fun k _ _ hc => Below.heap_setCell _ _ _ _ (fun e => by
    have e' : k = g := e
    subst e'
    rcases hc with hc | hc
    · omega
    · exact hc _ _ hg)⟩
theorem Fr.grown {E : TypeId} {B b : Nat} {w w' : World} {v : Value} {n size : Nat} {xs : List Value} (ho : w.ownsRow B E size v n xs) (hg : w.grownBy w' v.ownBlock) : Fr E B b w w' :=
  ⟨hg.os, hg.tape, hg.output, hg.size, fun k hl _ hc => hg.block k hl (fun e => by
    rcases ho.2 with ⟨rfl, _⟩ | ⟨g, cap, cur, rfl, hB, hh, _⟩
    · simp [Value.ownBlock] at e
    · have e' : k = g := by simpa [Value.ownBlock] using e
      subst e'
      rcases hc with hc | hc
      · omega
      · exact hc _ _ hh)⟩
theorem Fr.below {E : TypeId} {B b : Nat} {w w' : World} (h : Fr E B b w w') (hb : B ≤ b) (hB : B ≤ w.heap.size) : Below B w w' :=
  ⟨h.os, h.tape, h.output, h.size, fun k hk => h.block k (by omega) (by omega) (.inl hk)⟩

theorem Fr.below_of {E : TypeId} {B B0 b : Nat} {w w' : World} (h : Fr E B b w w') (hb : B0 ≤ b) (hB0 : B0 ≤ B) (hB : B0 ≤ w.heap.size) : Below B0 w w' :=
  ⟨h.os, h.tape, h.output, h.size, fun k hk => h.block k (by omega) (by omega) (.inl (by omega))⟩
/-- The cells of packed bits. -/
def pcells (L : List Nat) : List Value := (pack L).map fun x => Value.int .u8 (x : Nat)
theorem pcells_length (L : List Nat) : (pcells L).length = (L.length + 7) / 8 := by simp [pcells, pack_length]
theorem pcells_get (L : List Nat) (j : Nat) (h : j < (L.length + 7) / 8) : (pcells L)[j]? = some (.int .u8 (byteOf L j : Nat)) := by simp [pcells, pack_get L j h]

theorem cells3 {w : World} {b : Nat} {x y z : Value} {t : TypeId} (h : w.heap[b]? = some (.cells #[x, y, z] t (0, 0))) :
    w.cell? ⟨b, 0, none⟩ = some x ∧ w.cell? ⟨b, 1, none⟩ = some y ∧ w.cell? ⟨b, 2, none⟩ = some z ∧ w.frozen? ⟨b, 1, none⟩ = false ∧ w.frozen? ⟨b, 2, none⟩ = false :=
  ⟨by simp [World.cell?, h], by simp [World.cell?, h], by simp [World.cell?, h], by simp [World.frozen?, h], by simp [World.frozen?, h]⟩
end Go.Proofs.YtchjnfckcfikkaaDoor
