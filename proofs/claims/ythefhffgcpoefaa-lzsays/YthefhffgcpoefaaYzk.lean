/- A slice of threes that came in: what its cells hold. -/
import Derived.Test.YthefhffgcpoefaaYzi
import Derived.ProofKit
import Derived.Deep.Slices
import Derived.OpenShut
namespace Go.Proofs.Ythefhffgcpoefaa
open Go.RowKit Go.Deep
set_option linter.unusedVariables false

theorem cellsI : Try.prog.cellsOf 3 = 1 := by kernel_rfl
theorem cells3 : Try.prog.cellsOf 24 = 3 := by kernel_rfl
theorem add_none (b off n : Nat) : (⟨b, off, none⟩ : Addr).add n = ⟨b, off + n, none⟩ := by
  unfold Addr.add
  split
  · next h => subst h; rfl
  · rfl
theorem open_three {H : Type} {enc : TypeId × Value → H} {W : World} {n : Nat} {cs : List Value} {y : DataW H × List MemPlace} (h : DataW.trod enc Try.prog W 0 (fun _ => true) true n 24 cs = some y) :
    ∃ g : Nat → Int, ∀ j, j < 3 → cs[j]? = some (.int .i64 (g j)) := by
  obtain ⟨xs, m, _, rfl, hl, hlen, hf⟩ := DataW.trod_array Try.underlying24 h
  rw [cells3] at hl
  rw [cellsI] at hf
  match cs, hl, xs, hlen with
  | [c0, c1, c2], _, [y0, y1, y2], _ =>
    have f0 : DataW.trod enc Try.prog W 0 (fun _ => true) true m 3 [c0] = some y0 := hf 0 (by omega)
    have f1 : DataW.trod enc Try.prog W 0 (fun _ => true) true m 3 [c1] = some y1 := hf 1 (by omega)
    have f2 : DataW.trod enc Try.prog W 0 (fun _ => true) true m 3 [c2] = some y2 := hf 2 (by omega)
    obtain ⟨k0, e0, _⟩ := DataW.trod_int Try.underlying3 f0
    obtain ⟨k1, e1, _⟩ := DataW.trod_int Try.underlying3 f1
    obtain ⟨k2, e2, _⟩ := DataW.trod_int Try.underlying3 f2
    simp at e0 e1 e2
    subst e0 e1 e2
    refine ⟨fun j => match j with | 0 => k0 | 1 => k1 | _ => k2, fun j hj => ?_⟩
    match j, hj with
    | 0, _ => rfl
    | 1, _ => rfl
    | 2, _ => rfl
theorem open_threes {H : Type} {enc : TypeId × Value → H} {W : World} {fuel : Nat} {a0 : Option Addr} {len cap : Nat} {x : DataW H × List MemPlace} (h : DataW.trod enc Try.prog W 0 (fun _ => true) true fuel 22 [.slice a0 len cap] = some x) :
    ∃ f, A3 W a0 len f ∧ len ≤ 9223372036854775807 := by
  rcases open_slice Try.underlying22 h with ⟨h0, _⟩ | ⟨a, len', cap', m, n, D, Pl, hcs, _, hlc, hcm, hm, rfl, hx⟩
  · cases h0; exact ⟨fun _ _ => 0, .inl rfl, by omega⟩
  · cases hcs
    have hl63 : len ≤ 9223372036854775807 := by unfold maxLen at hcm; omega
    rcases Nat.eq_zero_or_pos len with hz | hpos
    · exact ⟨fun _ _ => 0, .inl hz, hl63⟩
    rw [cells3] at hx
    have hlm : len ≤ m := by rw [hm]; simp; exact hlc
    obtain ⟨b, off, spot⟩ := a
    have hcell : ∀ i, i < len → ∃ g : Nat → Int, ∀ j, j < 3 → W.cell? (((⟨b, off, spot⟩ : Addr).add (i * 3)).add j) = some (.int .i64 (g j)) := by
      intro i hi
      obtain ⟨cs', h1, h2⟩ := hx i (by omega)
      obtain ⟨g, hg⟩ := open_three h2
      obtain ⟨_, _, h3⟩ := World.cells?_some h1
      exact ⟨g, fun j hj => by rw [h3 j hj]; exact hg j hj⟩
    have hsp : spot = none := by
      obtain ⟨g, hg⟩ := hcell 0 hpos
      have h0 := hg 0 (by omega)
      exact World.cell?_spot (w := W) (a := ⟨b, off, spot⟩) (v := .int .i64 (g 0)) (by simpa [Addr.add] using h0)
    subst hsp
    have hlt : b < W.heap.size := by
      obtain ⟨g, hg⟩ := hcell 0 hpos
      have h0 := hg 0 (by omega)
      exact World.block_lt_of_cell? W ⟨b, off, none⟩ (u := .int .i64 (g 0)) (by simpa [Addr.add] using h0)
    obtain ⟨f, hf⟩ := choose_lt (α := Nat → Int) hcell
    refine ⟨f, .inr ⟨b, off, rfl, hlt, fun i hi j hj => ?_⟩, hl63⟩
    have := hf i hi j hj
    rw [add_none, add_none] at this
    exact this
end Go.Proofs.Ythefhffgcpoefaa
