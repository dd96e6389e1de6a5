/- Layer 18: dues in memory; how they are compared. -/
import Derived.Test.YtebfpffilepfaaaUl
namespace Go.Proofs.Ytebfpffilepfaaa
open Go.RowKit Go.Maps
set_option linter.unusedVariables false
set_option maxRecDepth 20000

/-- A record that is due. -/
structure Due where
  rec' : Rec
  step : Int
abbrev Due.off (d : Due) : Int := d.rec'.off
abbrev Due.v (d : Due) : Value := .agg #[.int .i64 d.rec'.off, .string d.rec'.key, .string d.rec'.val, .bool d.rec'.gone, .int .i64 d.step]
/-- A slice tells dues. -/
def DIn (w : World) (a : Option Addr) (L : List Due) : Prop :=
  ∀ i d, L[i]? = some d → ∃ b off, a = some ⟨b, off, none⟩ ∧ b < w.heap.size ∧ w.cell? ⟨b, off + i * 5, none⟩ = some (.int .i64 d.rec'.off) ∧ w.cell? ⟨b, off + i * 5 + 1, none⟩ = some (.string d.rec'.key) ∧ w.cell? ⟨b, off + i * 5 + 2, none⟩ = some (.string d.rec'.val) ∧ w.cell? ⟨b, off + i * 5 + 3, none⟩ = some (.bool d.rec'.gone) ∧ w.cell? ⟨b, off + i * 5 + 4, none⟩ = some (.int .i64 d.step)
theorem DIn.bel {w w' : World} {a : Option Addr} {L : List Due} (h : DIn w a L) (hb : Below w.heap.size w w') : DIn w' a L := fun i r hr => by
  obtain ⟨b, off, e, hlt, h1, h2, h3, h4, h5⟩ := h i r hr
  exact ⟨b, off, e, Nat.lt_of_lt_of_le hlt hb.size, by rw [cell_below hb hlt]; exact h1, by rw [cell_below hb hlt]; exact h2, by rw [cell_below hb hlt]; exact h3, by rw [cell_below hb hlt]; exact h4, by rw [cell_below hb hlt]; exact h5⟩
/-- Dues by rising offsets. -/
def DUp (L : List Due) : Prop := L.Pairwise fun a b => a.off < b.off
theorem DUp.lt {L : List Due} (h : DUp L) {i j : Nat} {x y : Due} (hi : L[i]? = some x) (hj : L[j]? = some y) (hij : i < j) : x.off < y.off := by
  obtain ⟨h1, rfl⟩ := List.getElem?_eq_some_iff.1 hi
  obtain ⟨h2, rfl⟩ := List.getElem?_eq_some_iff.1 hj
  exact List.pairwise_iff_getElem.1 h i j h1 h2 hij
def cmpV (x y : Int) : Int := if x < y then -1 else if y < x then 1 else 0
theorem cmpV_lt {x y : Int} (h : x < y) : cmpV x y = -1 := by unfold cmpV; rw [if_pos h]
theorem cmpV_ge {x y : Int} (h : y ≤ x) : 0 ≤ cmpV x y := by
  unfold cmpV
  rw [if_neg (by omega)]
  split <;> omega
theorem isNaN_ok (x : Int) (w : World) : Calls Try.prog 27 #[.int .i64 x] w fun e w' => e = .returned (.bool false) ∧ w' = w := by
  go_enter Try.func27, Try.ntmps27
  go_wp2
  go_ret
  exact ⟨rfl, rfl⟩
theorem compare_ok (x y : Int) (w : World) : Calls Try.prog 21 #[.int .i64 x, .int .i64 y] w fun e w' => e = .returned (.int .i64 (cmpV x y)) ∧ w' = w := by
  have HN : Hid (∀ x W, Calls Try.prog 27 #[.int .i64 x] W fun e w' => e = .returned (.bool false) ∧ w' = W) := isNaN_ok
  obtain ⟨c, hc⟩ : ∃ c, cmpV x y = c := ⟨_, rfl⟩
  have HC : Hid ((if x < y then (-1 : Int) else if y < x then 1 else 0) = c) := hc
  rw [hc]
  clear hc
  by_cases h1 : x < y
  · have HR : Hid (c = -1) := show c = -1 by rw [← HC.out, if_pos h1]
    go_enter Try.func21, Try.ntmps21
    go_wp2_with (go_at_call 27; refine (HN.out _ _).mono ?_; rintro e w' ⟨rfl, rfl⟩)
    go_ret
    exact ⟨by rw [HR.out]; rfl, rfl⟩
  · by_cases h2 : y < x
    · have HR : Hid (c = 1) := show c = 1 by rw [← HC.out, if_neg h1, if_pos h2]
      go_enter Try.func21, Try.ntmps21
      go_wp2_with (go_at_call 27; refine (HN.out _ _).mono ?_; rintro e w' ⟨rfl, rfl⟩)
      go_ret
      exact ⟨by rw [HR.out]; rfl, rfl⟩
    · have HR : Hid (c = 0) := show c = 0 by rw [← HC.out, if_neg h1, if_neg h2]
      go_enter Try.func21, Try.ntmps21
      go_wp2_with (go_at_call 27; refine (HN.out _ _).mono ?_; rintro e w' ⟨rfl, rfl⟩)
      go_ret
      exact ⟨by rw [HR.out]; rfl, rfl⟩
theorem dcmp_ok (a b : Due) (w : World) : Calls Try.prog 20 #[a.v, b.v] w fun e w' => e = .returned (.int .i64 (cmpV a.off b.off)) ∧ Below w.heap.size w w' := by
  obtain ⟨⟨o, k, v, g⟩, s⟩ := a
  obtain ⟨⟨o', k', v', g'⟩, s'⟩ := b
  simp only [Due.v, Due.off]
  have HC : Hid (∀ W, Calls Try.prog 21 #[.int .i64 o, .int .i64 o'] W fun e w' => e = .returned (.int .i64 (cmpV o o')) ∧ w' = W) := fun W => compare_ok o o' W
  have HB : Hid (Below w.heap.size w ((w.alloc (.cells #[.int .i64 o, .string k, .string v, .bool g, .int .i64 s] 74)).alloc (.cells #[.int .i64 o', .string k', .string v', .bool g', .int .i64 s'] 74))) := bl_alloc (Nat.le_refl _) (below_a _ _)
  go_enter Try.func20, Try.ntmps20
  go_wp2_with fail
  refine (HC.out _).mono ?_
  rintro e w1 ⟨rfl, hw⟩
  obtain rfl := hw.symm
  clear hw
  go_wp2_with fail
  go_ret
  exact ⟨rfl, HB.out⟩
theorem pcmp_ok (a : Due) (x : Int) (w : World) : Calls Try.prog 30 #[a.v, .int .i64 x] w fun e w' => e = .returned (.int .i64 (cmpV a.off x)) ∧ Below w.heap.size w w' := by
  obtain ⟨⟨o, k, v, g⟩, s⟩ := a
  simp only [Due.v, Due.off]
  have HC : Hid (∀ W, Calls Try.prog 21 #[.int .i64 o, .int .i64 x] W fun e w' => e = .returned (.int .i64 (cmpV o x)) ∧ w' = W) := fun W => compare_ok o x W
  have HB : Hid (Below w.heap.size w (w.alloc (.cells #[.int .i64 o, .string k, .string v, .bool g, .int .i64 s] 74))) := below_a _ _
  go_enter Try.func30, Try.ntmps30
  go_wp2_with fail
  refine (HC.out _).mono ?_
  rintro e w1 ⟨rfl, hw⟩
  obtain rfl := hw.symm
  clear hw
  go_wp2_with fail
  go_ret
  exact ⟨rfl, HB.out⟩
end Go.Proofs.Ytebfpffilepfaaa
