/- Layer 15: ids and numbers that came in. -/
import Derived.Test.YtpjjenhimnkdcaaRows
import Derived.Test.YtpjjenhimnkdcaaV10
import Derived.Test.YtpjjenhimnkdcaaEAo
import Derived.ChangeSlices
namespace Go.Proofs.Ytpjjenhimnkdcaa
open Go.RowKit Go.Deep
set_option linter.unusedVariables false

theorem Try.cellsId : Try.prog.cellsOf 30 = 2 := by kernel_rfl
theorem open_id {H : Type} {enc : TypeId × Value → H} {W : World} {n : Nat} {cs : List Value} {y : DataW H × List MemPlace} (h : DataW.trod enc Try.prog W 0 (fun _ => true) true n 30 cs = some y) :
    ∃ p s : Int, cs = [.int .i64 p, .int .i64 s] := by
  obtain ⟨xs, n', _, rfl, hl, hlen, hf⟩ := DataW.trod_struct Try.underlying30 h
  rw [Try.cellsId] at hl
  match cs, hl, xs, hlen with
  | [c0, c1], _, [y0, y1], _ =>
    have f0 : DataW.trod enc Try.prog W 0 (fun _ => true) true n' 3 (([c0, c1].drop 0).take (Try.prog.cellsOf 3)) = some y0 := hf 0 _ rfl
    have f1 : DataW.trod enc Try.prog W 0 (fun _ => true) true n' 3 (([c0, c1].drop 1).take (Try.prog.cellsOf 3)) = some y1 := hf 1 _ rfl
    rw [Try.cellsInt] at f0 f1
    obtain ⟨k, e0, _, _⟩ := DataW.trod_int Try.underlying3 f0
    obtain ⟨l, e1, _, _⟩ := DataW.trod_int Try.underlying3 f1
    simp at e0 e1
    subst e0 e1
    exact ⟨k, l, rfl⟩
/-- A slice tells ids. -/
def IdIn (w : World) (a : Option Addr) (L : List (Int × Int)) : Prop := ∀ i x, L[i]? = some x → ∃ b off, a = some ⟨b, off, none⟩ ∧ b < w.heap.size ∧ w.cell? ⟨b, off + i * 2, none⟩ = some (.int .i64 x.1) ∧ w.cell? ⟨b, off + i * 2 + 1, none⟩ = some (.int .i64 x.2)
theorem IdIn.below {w w' : World} {a : Option Addr} {L : List (Int × Int)} {B : Nat} (h : IdIn w a L) (hb : Below B w w') (hB : w.heap.size ≤ B) : IdIn w' a L := fun i x hx => by
  obtain ⟨b, off, e, hlt, h1, h2⟩ := h i x hx
  exact ⟨b, off, e, Nat.lt_of_lt_of_le hlt hb.size, by rw [cell_below hb (by omega)]; exact h1, by rw [cell_below hb (by omega)]; exact h2⟩
/-- A slice tells numbers. -/
def NuIn (w : World) (a : Option Addr) (L : List Int) : Prop := ∀ i x, L[i]? = some x → ∃ b off, a = some ⟨b, off, none⟩ ∧ b < w.heap.size ∧ w.cell? ⟨b, off + i, none⟩ = some (.int .i64 x)
theorem NuIn.below {w w' : World} {a : Option Addr} {L : List Int} {B : Nat} (h : NuIn w a L) (hb : Below B w w') (hB : w.heap.size ≤ B) : NuIn w' a L := fun i x hx => by
  obtain ⟨b, off, e, hlt, h1⟩ := h i x hx
  exact ⟨b, off, e, Nat.lt_of_lt_of_le hlt hb.size, by rw [cell_below hb (by omega)]; exact h1⟩
theorem open_nums {H : Type} {enc : TypeId × Value → H} {W : World} {fuel : Nat} {a0 : Option Addr} {len cap : Nat} {x : DataW H × List MemPlace} (h : DataW.trod enc Try.prog W 0 (fun _ => true) true fuel 23 [.slice a0 len cap] = some x) :
    ∃ xs : List Int, xs.length = len ∧ NuIn W a0 xs ∧ len ≤ 9223372036854775807 := by
  rcases Go.ChangeShapes.open_ints Try.underlying23 Try.underlying3 Try.cellsInt h with ⟨hcs, hx⟩ | ⟨a, len', cap', zs, hcs, _, hl, hm, hz, hx, hcell, hws⟩
  · cases hcs; exact ⟨[], rfl, (fun i x h => by simp at h), by omega⟩
  · cases hcs
    have hle : len ≤ zs.length := by rw [hz]; simp; exact hl
    have hlm : len ≤ 9223372036854775807 := by unfold maxLen at hm; omega
    refine ⟨zs.take len, by rw [List.length_take]; omega, fun i t ht => ?_, hlm⟩
    have hi : i < len := by
      rcases Nat.lt_or_ge i len with h | h
      · exact h
      · rw [List.getElem?_eq_none (by rw [List.length_take]; omega)] at ht; cases ht
    have hst : zs[i]? = some t := by rw [List.getElem?_take] at ht; simpa [hi] using ht
    have hc := hcell i (by omega)
    rw [List.getD_eq_getElem?_getD, hst] at hc
    simp only [Option.getD_some] at hc
    obtain ⟨b, off, spot⟩ := a
    have h0 := hcell 0 (by omega)
    have hsp : spot = none := World.cell?_spot (w := W) (a := ⟨b, off, spot⟩) (v := .int .i64 (zs.getD 0 0)) (by simpa [Addr.add] using h0)
    subst hsp
    rw [add_none] at hc
    exact ⟨b, off, rfl, World.block_lt_of_cell? W ⟨b, off + i, none⟩ hc, hc⟩
theorem open_ids {H : Type} {enc : TypeId × Value → H} {W : World} {fuel : Nat} {a0 : Option Addr} {len cap : Nat} {x : DataW H × List MemPlace} (h : DataW.trod enc Try.prog W 0 (fun _ => true) true fuel 22 [.slice a0 len cap] = some x) :
    ∃ L : List (Int × Int), L.length = len ∧ IdIn W a0 L ∧ len ≤ 9223372036854775807 := by
  rcases open_slice Try.underlying22 h with ⟨h0, _⟩ | ⟨a, len', cap', m, n, D, Pl, hcs, _, hlc, hcm, hm, rfl, hx⟩
  · cases h0
    exact ⟨[], rfl, (fun i x h => by simp at h), by omega⟩
  · cases hcs
    rcases Nat.eq_zero_or_pos len with hz | hpos
    · subst hz
      exact ⟨[], rfl, (fun i x h => by simp at h), by omega⟩
    rw [Try.cellsId] at hx
    have hlm : len ≤ m := by rw [hm]; simp; exact hlc
    obtain ⟨b, off, spot⟩ := a
    have hcell : ∀ i, i < len → ∃ q : Int × Int, ∀ j, j < 2 → W.cell? (((⟨b, off, spot⟩ : Addr).add (i * 2)).add j) = [Value.int .i64 q.1, Value.int .i64 q.2][j]? := by
      intro i hi
      obtain ⟨cs', h1, h2⟩ := hx i (by omega)
      obtain ⟨p, s, rfl⟩ := open_id h2
      obtain ⟨_, _, h3⟩ := World.cells?_some h1
      exact ⟨(p, s), h3⟩
    have hch : ∃ Q : Nat → Int × Int, ∀ i, i < len → ∀ j, j < 2 → W.cell? (((⟨b, off, spot⟩ : Addr).add (i * 2)).add j) = [Value.int .i64 (Q i).1, Value.int .i64 (Q i).2][j]? := by
      refine ⟨fun i => open Classical in if hi : i < len then (hcell i hi).choose else (0, 0), fun i hi => ?_⟩
      simp only [hi, dif_pos]
      exact (hcell i hi).choose_spec
    obtain ⟨Q, hQ⟩ := hch
    have h00 := hQ 0 hpos 0 (by omega)
    have hsp : spot = none := World.cell?_spot (w := W) (a := ⟨b, off, spot⟩) (v := .int .i64 (Q 0).1) (by simpa [Addr.add] using h00)
    subst hsp
    refine ⟨(List.range len).map Q, by simp, fun i x hxi => ?_, by unfold maxLen at hcm; omega⟩
    have hi : i < len := by have := (List.getElem?_eq_some_iff.1 hxi).1; simpa using this
    have e : Q i = x := by simpa [hi] using hxi
    subst e
    have c0 := hQ i hi 0 (by omega)
    have c1 := hQ i hi 1 (by omega)
    simp only [add_none] at c0 c1
    simp at c0 c1
    exact ⟨b, off, rfl, World.block_lt_of_cell? W ⟨b, off + i * 2, none⟩ c0, c0, c1⟩
end Go.Proofs.Ytpjjenhimnkdcaa
