/- A slice of operations that came in: what its cells hold. -/
import Derived.Test.YtjjbbfiogkpodaaOc
import Derived.ProofKit
import Derived.Deep.Slices
namespace Go.Proofs.Ytjjbbfiogkpodaa
open Go.RowKit Go.Deep
set_option linter.unusedVariables false

theorem Try.cellsOp : Try.prog.cellsOf 28 = 4 := by kernel_rfl
theorem Try.cellsInt : Try.prog.cellsOf 3 = 1 := by kernel_rfl
theorem Try.cellsStr : Try.prog.cellsOf 9 = 1 := by kernel_rfl
theorem add_none (b off n : Nat) : (⟨b, off, none⟩ : Addr).add n = ⟨b, off + n, none⟩ := by
  unfold Addr.add
  split
  · next h => subst h; rfl
  · rfl
/-- One operation's cells. -/
theorem open_op {H : Type} {enc : TypeId × Value → H} {W : World} {n : Nat} {cs : List Value} {y : DataW H × List MemPlace} (h : DataW.trod enc Try.prog W 0 (fun _ => true) true n 28 cs = some y) :
    ∃ (k x m : Int) (t : ByteArray), cs = [.int .i64 k, .int .i64 x, .int .i64 m, .string t] ∧ y.1 = .agg [.lit (.int .i64 k), .lit (.int .i64 x), .lit (.int .i64 m), .lit (.string t.data.toList)] ∧ t.size ≤ maxLen := by
  obtain ⟨xs, n', _, rfl, hl, hlen, hf⟩ := DataW.trod_struct Try.underlying28 h
  rw [Try.cellsOp] at hl
  match cs, hl, xs, hlen with
  | [c0, c1, c2, c3], _, [y0, y1, y2, y3], _ =>
    have f0 : DataW.trod enc Try.prog W 0 (fun _ => true) true n' 3 (([c0, c1, c2, c3].drop 0).take (Try.prog.cellsOf 3)) = some y0 := hf 0 _ rfl
    have f1 : DataW.trod enc Try.prog W 0 (fun _ => true) true n' 3 (([c0, c1, c2, c3].drop 1).take (Try.prog.cellsOf 3)) = some y1 := hf 1 _ rfl
    have f2 : DataW.trod enc Try.prog W 0 (fun _ => true) true n' 3 (([c0, c1, c2, c3].drop 2).take (Try.prog.cellsOf 3)) = some y2 := hf 2 _ rfl
    have f3 : DataW.trod enc Try.prog W 0 (fun _ => true) true n' 9 (([c0, c1, c2, c3].drop 3).take (Try.prog.cellsOf 9)) = some y3 := hf 3 _ rfl
    rw [Try.cellsInt] at f0 f1 f2
    rw [Try.cellsStr] at f3
    obtain ⟨k, e0, z0, _⟩ := DataW.trod_int Try.underlying3 f0
    obtain ⟨x, e1, z1, _⟩ := DataW.trod_int Try.underlying3 f1
    obtain ⟨m, e2, z2, _⟩ := DataW.trod_int Try.underlying3 f2
    obtain ⟨t, e3, z3, ht⟩ := DataW.trod_string Try.underlying9 f3
    simp at e0 e1 e2 e3
    subst e0 e1 e2 e3
    subst z0 z1 z2 z3
    exact ⟨k, x, m, t, rfl, rfl, ht⟩
theorem open_ops {H : Type} {enc : TypeId × Value → H} {W : World} {fuel : Nat} {a0 : Option Addr} {len cap : Nat} {x : DataW H × List MemPlace} (h : DataW.trod enc Try.prog W 0 (fun _ => true) true fuel 22 [.slice a0 len cap] = some x) :
    len = 0 ∨ ∃ (b off : Nat) (fk fx fn : Nat → Int) (ft : Nat → ByteArray) (sp : List (DataW H)), a0 = some ⟨b, off, none⟩ ∧ OpsAt W b off len fk fx fn ft ∧ len ≤ 9223372036854775807 ∧
      x.1 = .slice ((List.range len).map fun i => .agg [.lit (.int .i64 (fk i)), .lit (.int .i64 (fx i)), .lit (.int .i64 (fn i)), .lit (.string (ft i).data.toList)]) sp := by
  rcases open_slice Try.underlying22 h with ⟨h0, _⟩ | ⟨a, len', cap', m, n, D, Pl, hcs, _, hlc, hcm, hm, rfl, hx⟩
  · cases h0; exact .inl rfl
  · cases hcs
    rcases Nat.eq_zero_or_pos len with hz | hpos
    · exact .inl hz
    right
    rw [Try.cellsOp] at hx
    have hlm : len ≤ m := by rw [hm]; simp; exact hlc
    obtain ⟨b, off, spot⟩ := a
    have hcell : ∀ i, i < len → ∃ q : Int × Int × Int × ByteArray, (∀ j, j < 4 → W.cell? (((⟨b, off, spot⟩ : Addr).add (i * 4)).add j) = [Value.int .i64 q.1, .int .i64 q.2.1, .int .i64 q.2.2.1, .string q.2.2.2][j]?) ∧
        D i = .agg [.lit (.int .i64 q.1), .lit (.int .i64 q.2.1), .lit (.int .i64 q.2.2.1), .lit (.string q.2.2.2.data.toList)] := by
      intro i hi
      obtain ⟨cs', h1, h2⟩ := hx i (by omega)
      obtain ⟨k, x, m', t, rfl, hd, _⟩ := open_op h2
      obtain ⟨_, _, h3⟩ := World.cells?_some h1
      exact ⟨(k, x, m', t), h3, hd⟩
    obtain ⟨Q, hQ⟩ := choose_lt (α := Int × Int × Int × ByteArray) hcell
    have hsp : spot = none := by
      have h0 := (hQ 0 hpos).1 0 (by omega)
      have := World.cell?_spot (w := W) (a := ⟨b, off, spot⟩) (v := .int .i64 (Q 0).1) (by simpa [Addr.add] using h0)
      exact this
    subst hsp
    have hlt : b < W.heap.size := by
      have h0 := (hQ 0 hpos).1 0 (by omega)
      exact World.block_lt_of_cell? W ⟨b, off, none⟩ (u := .int .i64 (Q 0).1) (by simpa [Addr.add] using h0)
    have had : ∀ i j, ((⟨b, off, none⟩ : Addr).add (i * 4)).add j = ⟨b, off + i * 4 + j, none⟩ := by
      intro i j
      rw [add_none, add_none]
    refine ⟨b, off, fun i => (Q i).1, fun i => (Q i).2.1, fun i => (Q i).2.2.1, fun i => (Q i).2.2.2, (List.range (m - len)).map (fun j => D (len + j)), rfl, ⟨?_, ?_, ?_, ?_, hlt⟩, by unfold maxLen at hcm; omega, ?_⟩
    · intro i hi; have := (hQ i hi).1 0 (by omega); rw [had] at this; simpa using this
    · intro i hi; have := (hQ i hi).1 1 (by omega); rw [had] at this; simpa using this
    · intro i hi; have := (hQ i hi).1 2 (by omega); rw [had] at this; simpa using this
    · intro i hi; have := (hQ i hi).1 3 (by omega); rw [had] at this; simpa using this
    · have : (List.range len).map D = (List.range len).map fun i => .agg [.lit (.int .i64 (Q i).1), .lit (.int .i64 (Q i).2.1), .lit (.int .i64 (Q i).2.2.1), .lit (.string (Q i).2.2.2.data.toList)] :=
        List.map_congr_left (fun i hi => (hQ i (List.mem_range.1 hi)).2)
      rw [this]
end Go.Proofs.Ytjjbbfiogkpodaa
