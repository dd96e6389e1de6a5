/- Bits as a slice of numbers that the call owns, beside a writer; what each kind of call keeps of the other. -/
import Derived.Test.YtjjbbfiogkpodaaOb
namespace Go.Proofs.Ytjjbbfiogkpodaa
open Go.RowKit
set_option linter.unusedVariables false

def icells (L : List Nat) : List Value := L.map fun x => Value.int .i64 (x : Nat)
theorem icells_snoc (L : List Nat) (x : Nat) : icells L ++ [Value.int .i64 (x : Nat)] = icells (L ++ [x]) := by simp [icells]
/-- The slice of numbers L. -/
def IS (w : World) (B : Nat) (v : Value) (L : List Nat) : Prop := w.ownsRow B 3 1 v L.length (icells L)
theorem IS.nil (w : World) (B : Nat) : IS w B (.slice none 0 0) [] := World.ownsRow_nil _ _ _ _
theorem IS.form {w : World} {B : Nat} {v : Value} {L : List Nat} (h : IS w B v L) : ∃ ao cp, v = .slice ao L.length cp := by
  rcases h.2 with ⟨rfl, h0⟩ | ⟨g, cap, cur, rfl, _⟩
  · exact ⟨none, 0, by rw [h0]⟩
  · exact ⟨_, _, rfl⟩
theorem ownsRow_kept {w w' : World} {B : Nat} {E : TypeId} {size n : Nat} {v : Value} {xs : List Value} (h : w.ownsRow B E size v n xs) (hk : ∀ (g : Nat) (cur : Array Value), w.heap[g]? = some (.cells cur E (0, 0)) → w'.heap[g]? = w.heap[g]?) : w'.ownsRow B E size v n xs := by
  refine ⟨h.1, ?_⟩
  rcases h.2 with hn | ⟨g, cap, cur, hv, hg, hh, r⟩
  · exact .inl hn
  · exact .inr ⟨g, cap, cur, hv, hg, (hk g cur hh).trans hh, r⟩
/-- A writer's call keeps the slice. -/
theorem IS.fr {w w' : World} {B B2 b : Nat} {v : Value} {L M : List Nat} (h : IS w B v L) (hw : WS w B2 b M) (hf : Fr 5 B2 b w w') : IS w' B v L := by
  obtain ⟨v2, hb2, _⟩ := hw
  refine ownsRow_kept h (fun g cur hg => hf.block g (lt_of_block hg) ?_ (.inr (fun cur' m => ?_)))
  · rintro rfl; rw [hb2] at hg; cases hg
  · rw [hg]; intro e; cases e
theorem IS.below {w w' : World} {B : Nat} {v : Value} {L : List Nat} (h : IS w B v L) (hb : Below w.heap.size w w') : IS w' B v L :=
  ownsRow_kept h (fun g cur hg => hb.block g (lt_of_block hg))
theorem IS.only {w w' : World} {B B2 b : Nat} {v : Value} {L M : List Nat} (h : IS w B v L) (hw : WS w B2 b M) (hf : Only b w w') : IS w' B v L := h.fr hw (Fr.only hf)
theorem IS.alloc {w : World} {B : Nat} {v : Value} {L : List Nat} (h : IS w B v L) (o : Obj) : IS (w.alloc o) B v L := World.ownsRow.alloc h o
/-- An append to the slice keeps the writer. -/
theorem WS.fr {w w' : World} {B B2 b bx : Nat} {L : List Nat} (h : WS w B b L) (hf : Fr 3 B2 bx w w') (hbx : w.heap.size ≤ bx) : WS w' B b L := by
  obtain ⟨v, hb, _⟩ := id h
  refine h.kept (hf.block b h.lt (by have := h.lt; omega) (.inr (fun cur m => ?_))) (fun g cur hg => hf.block g (lt_of_block hg) (by have := lt_of_block hg; omega) (.inr (fun cur' m => ?_)))
  · rw [hb]; intro e; cases e
  · rw [hg]; intro e; cases e
/-- An operation that was boxed. -/
def Box (w : World) (N : Nat) (k x n : Int) (t : ByteArray) : Prop := w.heap[N]? = some (.cells #[.int .i64 k, .int .i64 x, .int .i64 n, .string t] 28 (0, 0))
theorem Box.cells {w : World} {N : Nat} {k x n : Int} {t : ByteArray} (h : Box w N k x n t) :
    w.cell? ⟨N, 0, none⟩ = some (.int .i64 k) ∧ w.cell? ⟨N, 1, none⟩ = some (.int .i64 x) ∧ w.cell? ⟨N, 2, none⟩ = some (.int .i64 n) ∧ w.cell? ⟨N, 3, none⟩ = some (.string t) := by
  unfold Box at h
  exact ⟨by simp [World.cell?, h], by simp [World.cell?, h], by simp [World.cell?, h], by simp [World.cell?, h]⟩
theorem Box.fr {w w' : World} {N : Nat} {k x n : Int} {t : ByteArray} {E : TypeId} {B b : Nat} (h : Box w N k x n t) (hE : E ≠ 28) (hb : N ≠ b) (hf : Fr E B b w w') : Box w' N k x n t := by
  refine (hf.block N (lt_of_block h) hb (.inr (fun cur m => ?_))).trans h
  unfold Box at h
  rw [h]; intro e; cases e; exact hE rfl
theorem Box.below {w w' : World} {N : Nat} {k x n : Int} {t : ByteArray} (h : Box w N k x n t) (hb : Below w.heap.size w w') : Box w' N k x n t := (hb.block N (lt_of_block h)).trans h
theorem Fr.appended {E : TypeId} {B n size : Nat} {w w1 : World} {v : Value} {xs : List Value} {o : Obj} (h : w.ownsRow B E size v n xs) (hg : (w.alloc o).grownBy w1 v.ownBlock) : Fr E B w.heap.size w w1 :=
  (Fr.alloc _ _ _ _ _).trans (Fr.grown (h.alloc o) hg)
theorem Try.infoI64 : (Try.prog.info? 3).map (fun i => (i.zero, i.size, i.bytes)) = some (some (.int .i64 0), 1, 8) := by kernel_rfl
theorem and1_i64 (x k : Nat) (hx : x < 9223372036854775808) : bits .and .i64 ((x : Int) / 2 ^ k) 1 = ((x / 2 ^ k % 2 : Nat) : Int) := by
  have e : (x : Int) / 2 ^ k = ((x / 2 ^ k : Nat) : Int) := by simp
  have h := i64_mask 1 (by omega) ((x / 2 ^ k : Nat) : Int)
  rw [show ((2 ^ 1 - 1 : Nat) : Int) = 1 from rfl] at h
  rw [e, h]
  simp
theorem shr_zero' (X K : Nat) (h : X < 2 ^ K) : (X : Int) / 2 ^ K ≤ 0 := by
  have e : (X : Int) / 2 ^ K = ((X / 2 ^ K : Nat) : Int) := by simp
  rw [e, Nat.div_eq_of_lt h]; simp
/-- What one call on both sides leaves. -/
def WritesPost (B b : Nat) (L : List Nat) (t : ByteArray) (w : World) (e : Ending) (w' : World) : Prop :=
  ∃ (ao : Option Addr) (cp : Nat) (L' : List Nat), e = .returned (.tuple #[.slice ao L'.length cp, .bool true]) ∧ L'.length ≤ L.length + 57 + 8 * t.size ∧ IS w' B (.slice ao L'.length cp) L' ∧ WS w' B b L' ∧ Below B w w'
end Go.Proofs.Ytjjbbfiogkpodaa
