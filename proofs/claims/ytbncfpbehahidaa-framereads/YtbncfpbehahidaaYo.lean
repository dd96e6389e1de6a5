/- Layer 6: a finder: the bytes at a place, the last place that was met, a place that is met. -/
import Derived.Test.YtbncfpbehahidaaYn
import Derived.BigRegion
namespace Go.Proofs.Ytbncfpbehahidaa
open Go.RowKit Go.Maps
set_option linter.unusedVariables false
set_option maxRecDepth 20000

/-- The four bytes at a place. -/
def four (s : ByteArray) (p : Nat) : Nat × Nat × Nat × Nat := (bt s p, bt s (p + 1), bt s (p + 2), bt s (p + 3))
/-- The last of the first k places where four bytes stand. -/
def lastP (s : ByteArray) : Nat → Nat × Nat × Nat × Nat → Option Nat
  | 0, _ => none
  | k + 1, x => if four s k = x then some k else lastP s k x
theorem lastP_some {s : ByteArray} {x : Nat × Nat × Nat × Nat} : ∀ {k p : Nat}, lastP s k x = some p → p < k ∧ four s p = x
  | 0, p, h => by simp [lastP] at h
  | k + 1, p, h => by
    unfold lastP at h
    split at h
    · cases h; exact ⟨Nat.lt_succ_self _, by assumption⟩
    · have := lastP_some h; exact ⟨by omega, this.2⟩
def enc32 : Option Nat → Int
  | none => -1
  | some p => (p : Nat)
/-- What a map knows of the first k places. -/
def MapOK (D : DataW Unit) (s : ByteArray) (k : Nat) : Prop :=
  ∀ a b c d kl, keyOf Try.prog 88 (v4 a b c d) = some kl → Maps.has D kl = (lastP s k (a, b, c, d)).isSome ∧ ∀ p, lastP s k (a, b, c, d) = some p → D.atKey kl (.lit (.int .i32 0)) = .lit (.int .i32 (p : Nat))
theorem mapOK_nil (s : ByteArray) : MapOK (.map []) s 0 := by
  intro a b c d kl _
  exact ⟨rfl, fun p h => by simp [lastP] at h⟩
theorem v4_inj {a b c d a' b' c' d' : Nat} (h : v4 a b c d = v4 a' b' c' d') : (a, b, c, d) = (a', b', c', d') := by
  simp [v4] at h
  simp only [Prod.mk.injEq]
  omega
theorem MapOK.put {D : DataW Unit} {s : ByteArray} {k : Nat} {kl : Lit} (h : MapOK D s k) (hD : Maps.IsMap D) (hk : keyOf Try.prog 88 (v4 (bt s k) (bt s (k + 1)) (bt s (k + 2)) (bt s (k + 3))) = some kl) : MapOK (D.put kl (.lit (.int .i32 (k : Nat)))) s (k + 1) := by
  intro a b c d kl' hk'
  by_cases e : (a, b, c, d) = four s k
  · have e' : v4 a b c d = v4 (bt s k) (bt s (k + 1)) (bt s (k + 2)) (bt s (k + 3)) := by
      unfold four at e
      simp only [Prod.mk.injEq] at e
      obtain ⟨rfl, rfl, rfl, rfl⟩ := e
      rfl
    rw [e', hk] at hk'
    cases hk'
    have el : lastP s (k + 1) (a, b, c, d) = some k := by unfold lastP; rw [if_pos e.symm]
    rw [el]
    refine ⟨Maps.has_put_same hD (law4.key hk) _, fun p hp => ?_⟩
    cases hp
    exact Maps.atKey_put_same hD (law4.key hk) _ _
  · have hne : kl' ≠ kl := fun h => by
      subst h
      have := law4.inj hk' hk
      exact e (v4_inj this)
    have el : lastP s (k + 1) (a, b, c, d) = lastP s k (a, b, c, d) := by
      rw [lastP, if_neg (fun h => e h.symm)]
    rw [el, Maps.has_put_other hne]
    refine ⟨(h a b c d kl' hk').1, fun p hp => ?_⟩
    rw [Maps.atKey_put_other hne]
    exact (h a b c d kl' hk').2 p hp
/-- Block f is a finder of the text s that has met the first k places. -/
structure FS (w : World) (f mb ob : Nat) (s : ByteArray) (k : Nat) : Prop where
  blk : w.heap[f]? = some (.cells #[.string s, .map (some mb), .slice (some ⟨ob, 0, none⟩) s.size s.size] 70 (0, 0))
  map : ∃ D : DataW Unit, w.ownsMap Try.prog 88 (plainElem Try.prog 21) mb k D ∧ MapOK D s k ∧ Maps.IsMap D
  old : ∃ cs : Array Value, w.heap[ob]? = some (.cells cs 21 (0, 0)) ∧ cs.size = s.size ∧ ∀ i, i < k → cs[i]? = some (.int .i32 (enc32 (lastP s i (four s i))))
  small : s.size ≤ 1048576
/-- w' is w but for the blocks mb and ob, for draws and new blocks. -/
structure TF (mb ob : Nat) (w w' : World) : Prop where
  os : w'.os = w.os
  tape : w'.tape = w.tape
  output : w'.output = w.output
  size : w.heap.size ≤ w'.heap.size
  block : ∀ k, k < w.heap.size → k ≠ mb → k ≠ ob → w'.heap[k]? = w.heap[k]?
theorem TF.refl (mb ob : Nat) (w : World) : TF mb ob w w := ⟨rfl, rfl, rfl, Nat.le_refl _, fun _ _ _ _ => rfl⟩
theorem TF.trans {mb ob : Nat} {u v w : World} (h : TF mb ob u v) (k : TF mb ob v w) : TF mb ob u w :=
  ⟨k.os.trans h.os, k.tape.trans h.tape, k.output.trans h.output, Nat.le_trans h.size k.size, fun i hl h1 h2 => (k.block i (Nat.lt_of_lt_of_le hl h.size) h1 h2).trans (h.block i hl h1 h2)⟩
theorem TF.drewN (mb ob : Nat) (w : World) (k : Nat) : TF mb ob w (w.drewN k) := ⟨rfl, rfl, rfl, Nat.le_refl _, fun _ _ _ _ => rfl⟩
theorem FS.drewN {w : World} {f mb ob : Nat} {s : ByteArray} {k : Nat} (h : FS w f mb ob s k) (n : Nat) : FS (w.drewN n) f mb ob s k := ⟨h.blk, h.map, h.old, h.small⟩
theorem FS.cells {w : World} {f mb ob : Nat} {s : ByteArray} {k : Nat} (h : FS w f mb ob s k) : w.cell? ⟨f, 0, none⟩ = some (.string s) ∧ w.cell? ⟨f, 1, none⟩ = some (.map (some mb)) ∧ w.cell? ⟨f, 2, none⟩ = some (.slice (some ⟨ob, 0, none⟩) s.size s.size) := by
  have h1 := h.blk
  exact ⟨by simp [World.cell?, h1], by simp [World.cell?, h1], by simp [World.cell?, h1]⟩
def fourV (s : ByteArray) (p : Nat) : Value := v4 (bt s p) (bt s (p + 1)) (bt s (p + 2)) (bt s (p + 3))
end Go.Proofs.Ytbncfpbehahidaa
