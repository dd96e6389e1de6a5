/- Layer 18: acks as values; which are good, which meet. -/
import Derived.Test.YtebfpffilepfaaaProg
import Derived.WalkKit
import Derived.WalkLawsBesides
import Derived.WalkSpells
import Derived.Outline
import Derived.LaidEqlPtr
import Derived.BigQuiet
import Derived.Deep.QuietTactic
import Derived.ProofKit
import Derived.Deep.DeepCutAuto
import Derived.Deep.AppendLies
import Derived.Maps.OwnSet
import Derived.Maps.OwnOps
import Derived.DeepKeys4
import Derived.Laws.StructEq
import Derived.Laws.BitsAllLaws
import Derived.IntWalk
namespace Go.Proofs.Ytebfpffilepfaaa
open Go.RowKit Go.Maps
set_option linter.unusedVariables false
set_option maxRecDepth 20000

theorem below_ad (W : World) (o : Obj) : Below W.heap.size W (W.alloc o).drew := ⟨rfl, rfl, rfl, by simp, fun k hk => (((Below.refl W.heap.size W).alloc (Nat.le_refl _) o).block k hk)⟩
theorem below_a (W : World) (o : Obj) : Below W.heap.size W (W.alloc o) := (Below.refl W.heap.size W).alloc (Nat.le_refl _) o
theorem below_d (W : World) : Below W.heap.size W W.drew := ⟨rfl, rfl, rfl, Nat.le_refl _, fun _ _ => rfl⟩
theorem cell_below {w w' : World} {B b i : Nat} (h : Below B w w') (hb : b < B) : w'.cell? ⟨b, i, none⟩ = w.cell? ⟨b, i, none⟩ := by
  simp only [World.cell?, h.block b hb]
theorem cellB {W W' : World} (hb : Below W.heap.size W W') {b i : Nat} {v : Value} (h : W.cell? ⟨b, i, none⟩ = some v) : W'.cell? ⟨b, i, none⟩ = some v := by
  rw [cell_below hb (by
    rcases Nat.lt_or_ge b W.heap.size with hl | hl
    · exact hl
    · have e : W.heap[b]? = none := Array.getElem?_eq_none hl
      simp [World.cell?, e] at h)]
  exact h
theorem bl_drew {B : Nat} {w w' : World} : Below B w w'.drew ↔ Below B w w' := ⟨fun h => ⟨h.os, h.tape, h.output, h.size, h.block⟩, fun h => ⟨h.os, h.tape, h.output, h.size, h.block⟩⟩
theorem bl_alloc {B : Nat} {w w' : World} {o : Obj} (hB : B ≤ w.heap.size) (h : Below B w w') : Below B w (w'.alloc o) := h.alloc (Nat.le_trans hB h.size) o
theorem bl_set {B b i : Nat} {w w' : World} {u : Value} (hb : B ≤ b) (h : Below B w w') : Below B w (w'.setCell ⟨b, i, none⟩ u) := h.setCell hb _
theorem bl_grown {B b : Nat} {w w' w'' : World} (hB : B ≤ w.heap.size) (h : Below B w w') (hg : w'.grownBy w'' (some b)) (hb : B ≤ b) : Below B w w'' :=
  ⟨hg.os.trans h.os, hg.tape.trans h.tape, hg.output.trans h.output, Nat.le_trans h.size hg.size, fun k hk => (hg.block k (Nat.lt_of_lt_of_le hk (Nat.le_trans hB h.size)) (by intro e; have e' : k = b := Option.some.inj e; omega)).trans (h.block k hk)⟩

/-- An ack. -/
structure Ak where
  step : Int
  prod : Int
  seq : Int
  err : Int
  base : Int
  cnt : Int
abbrev Ak.v (a : Ak) : Value := .agg #[.int .i64 a.step, .int .i64 a.prod, .int .i64 a.seq, .int .i64 a.err, .int .i64 a.base, .int .i64 a.cnt]
def Ak.goodB (a : Ak) : Bool := decide (a.err = 0) && decide (0 ≤ a.base) && decide (a.base ≤ 1099511627776) && decide (1 ≤ a.cnt) && decide (a.cnt ≤ 256)
theorem good_iff (a : Ak) : a.goodB = true ↔ a.err = 0 ∧ 0 ≤ a.base ∧ a.base ≤ 1099511627776 ∧ 1 ≤ a.cnt ∧ a.cnt ≤ 256 := by
  unfold Ak.goodB
  simp only [Bool.and_eq_true, decide_eq_true_eq, and_assoc]
/-- Have two acks an offset in common? -/
def meetB (a b : Ak) : Bool := decide (a.base < b.base + b.cnt) && decide (b.base < a.base + a.cnt)
def sameId (a b : Ak) : Bool := decide (a.prod = b.prod) && decide (a.seq = b.seq)
/-- Does an ack not go with one ahead of it? -/
def clash (b a : Ak) : Bool := if sameId b a then (decide (b.base ≠ a.base) || decide (b.cnt ≠ a.cnt)) else meetB b a
def badA (P : List Ak) (a : Ak) : Bool := decide (a.err = 0) && (!a.goodB || P.any fun b => b.goodB && clash b a)
/-- The first ack that may not be. -/
def fbad : List Ak → List Ak → Option Nat
  | _, [] => none
  | P, a :: R => if badA P a then some P.length else fbad (P ++ [a]) R
def resA : Option Nat → Value
  | none => .tuple #[.int .i64 0, .int .i64 0]
  | some i => .tuple #[.int .i64 110, .int .i64 (i : Nat)]
set_option maxHeartbeats 1000000 in
theorem isGood_ok (a : Ak) (w : World) :
    Calls Try.prog 9 #[a.v] w fun e w' => e = .returned (.bool a.goodB) ∧ Below w.heap.size w w' := by
  obtain ⟨st, p, s, er, b, c⟩ := a
  have HB : Hid (Below w.heap.size w (w.alloc (.cells #[.int .i64 st, .int .i64 p, .int .i64 s, .int .i64 er, .int .i64 b, .int .i64 c] 33))) := below_a _ _
  have HG : Hid (Ak.goodB ⟨st, p, s, er, b, c⟩ = (decide (er = 0) && decide (0 ≤ b) && decide (b ≤ 1099511627776) && decide (1 ≤ c) && decide (c ≤ 256))) := rfl
  obtain ⟨g, hg⟩ : ∃ g, Ak.goodB ⟨st, p, s, er, b, c⟩ = g := ⟨_, rfl⟩
  rw [hg] at HG ⊢
  clear hg
  simp only [Ak.v]
  by_cases h1 : er = 0
  · subst h1
    by_cases h2 : 0 ≤ b
    · by_cases h3 : b ≤ 1099511627776
      · by_cases h4 : 1 ≤ c
        · by_cases h5 : c ≤ 256
          · obtain rfl : g = true := by rw [HG.out]; simp [h2, h3, h4, h5]
            go_enter Try.func9, Try.ntmps9
            go_wp2
            go_ret
            exact ⟨rfl, HB.out⟩
          · obtain rfl : g = false := by rw [HG.out]; simp [h5]
            go_enter Try.func9, Try.ntmps9
            go_wp2
            go_ret
            exact ⟨rfl, HB.out⟩
        · obtain rfl : g = false := by rw [HG.out]; simp [h4]
          go_enter Try.func9, Try.ntmps9
          go_wp2
          go_ret
          exact ⟨rfl, HB.out⟩
      · obtain rfl : g = false := by rw [HG.out]; simp [h3]
        go_enter Try.func9, Try.ntmps9
        go_wp2
        go_ret
        exact ⟨rfl, HB.out⟩
    · obtain rfl : g = false := by rw [HG.out]; simp [h2]
      go_enter Try.func9, Try.ntmps9
      go_wp2
      go_ret
      exact ⟨rfl, HB.out⟩
  · obtain rfl : g = false := by rw [HG.out]; simp [h1]
    go_enter Try.func9, Try.ntmps9
    go_wp2
    go_ret
    exact ⟨rfl, HB.out⟩
end Go.Proofs.Ytebfpffilepfaaa
