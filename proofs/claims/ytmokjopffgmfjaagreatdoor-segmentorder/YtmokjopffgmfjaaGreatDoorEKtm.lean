/- Layer 11: recipes that came in: one, and a slice of them. -/
import Derived.Test.YtmokjopffgmfjaaGreatDoorRows
import Derived.Test.YtmokjopffgmfjaaGreatDoorEKss
import Derived.ProofKit
import Derived.Deep.Slices
import Derived.ChangeArms
namespace Go.Proofs.YtmokjopffgmfjaaGreatDoor
open Go.RowKit Go.Deep
set_option linter.unusedVariables false
set_option maxRecDepth 20000
set_option maxRecDepth 20000

theorem Tryz.cellsRcp : Tryz.prog.cellsOf 46 = 5 := by kernel_rfl
theorem Tryz.cellsInt' : Tryz.prog.cellsOf 3 = 1 := by kernel_rfl
theorem Tryz.cellsStr' : Tryz.prog.cellsOf 9 = 1 := by kernel_rfl
def RP.cs (x : RP) : List Value := [.int .i64 x.cnt, .int .i64 x.key, .int .i64 x.prod, .int .i64 x.seq, .string x.val]
theorem add_none' (b off n : Nat) : (⟨b, off, none⟩ : Addr).add n = ⟨b, off + n, none⟩ := by
  unfold Addr.add
  split
  · next h => subst h; rfl
  · rfl
theorem open_rcp {H : Type} {enc : TypeId × Value → H} {W : World} {n : Nat} {cs : List Value} {y : DataW H × List MemPlace} (h : DataW.trod enc Tryz.prog W 0 (fun _ => true) true n 46 cs = some y) :
    ∃ r : RP, cs = r.cs ∧ r.val.size ≤ maxLen := by
  obtain ⟨xs, n', _, rfl, hl, hlen, hf⟩ := DataW.trod_struct Tryz.underlying46 h
  rw [Tryz.cellsRcp] at hl
  match cs, hl, xs, hlen with
  | [c0, c1, c2, c3, c4], _, [y0, y1, y2, y3, y4], _ =>
    have f0 : DataW.trod enc Tryz.prog W 0 (fun _ => true) true n' 3 (([c0, c1, c2, c3, c4].drop 0).take (Tryz.prog.cellsOf 3)) = some y0 := hf 0 _ rfl
    have f1 : DataW.trod enc Tryz.prog W 0 (fun _ => true) true n' 3 (([c0, c1, c2, c3, c4].drop 1).take (Tryz.prog.cellsOf 3)) = some y1 := hf 1 _ rfl
    have f2 : DataW.trod enc Tryz.prog W 0 (fun _ => true) true n' 3 (([c0, c1, c2, c3, c4].drop 2).take (Tryz.prog.cellsOf 3)) = some y2 := hf 2 _ rfl
    have f3 : DataW.trod enc Tryz.prog W 0 (fun _ => true) true n' 3 (([c0, c1, c2, c3, c4].drop 3).take (Tryz.prog.cellsOf 3)) = some y3 := hf 3 _ rfl
    have f4 : DataW.trod enc Tryz.prog W 0 (fun _ => true) true n' 9 (([c0, c1, c2, c3, c4].drop 4).take (Tryz.prog.cellsOf 9)) = some y4 := hf 4 _ rfl
    rw [Tryz.cellsInt'] at f0 f1 f2 f3
    rw [Tryz.cellsStr'] at f4
    obtain ⟨k0, e0, z0, _⟩ := DataW.trod_int Tryz.underlying3 f0
    obtain ⟨k1, e1, z1, _⟩ := DataW.trod_int Tryz.underlying3 f1
    obtain ⟨k2, e2, z2, _⟩ := DataW.trod_int Tryz.underlying3 f2
    obtain ⟨k3, e3, z3, _⟩ := DataW.trod_int Tryz.underlying3 f3
    obtain ⟨s, e4, z4, hs⟩ := DataW.trod_string Tryz.underlying9 f4
    simp at e0 e1 e2 e3 e4
    subst e0 e1 e2 e3 e4
    exact ⟨⟨k0, k1, k2, k3, s⟩, rfl, hs⟩
/-- A slice of recipes. -/
def RIs (w : World) (a : Option Addr) (L : List RP) : Prop :=
  ∀ i r, L[i]? = some r → ∃ b off, a = some ⟨b, off, none⟩ ∧ b < w.heap.size ∧ w.cell? ⟨b, off + i * 5, none⟩ = some (.int .i64 r.cnt) ∧ w.cell? ⟨b, off + i * 5 + 1, none⟩ = some (.int .i64 r.key) ∧ w.cell? ⟨b, off + i * 5 + 2, none⟩ = some (.int .i64 r.prod) ∧ w.cell? ⟨b, off + i * 5 + 3, none⟩ = some (.int .i64 r.seq) ∧ w.cell? ⟨b, off + i * 5 + 4, none⟩ = some (.string r.val)
theorem RIs.below {w w' : World} {a : Option Addr} {L : List RP} {B : Nat} (h : RIs w a L) (hb : Below B w w') (hB : w.heap.size ≤ B) : RIs w' a L := by
  intro i r hr
  obtain ⟨b, off, h1, h2, h3, h4, h5, h6, h7⟩ := h i r hr
  exact ⟨b, off, h1, Nat.lt_of_lt_of_le h2 hb.size, by rw [cell_below hb (by omega)]; exact h3, by rw [cell_below hb (by omega)]; exact h4, by rw [cell_below hb (by omega)]; exact h5, by rw [cell_below hb (by omega)]; exact h6, by rw [cell_below hb (by omega)]; exact h7⟩
theorem open_rcps {H : Type} {enc : TypeId × Value → H} {W : World} {fuel : Nat} {a0 : Option Addr} {len cap : Nat} {x : DataW H × List MemPlace} (h : DataW.trod enc Tryz.prog W 0 (fun _ => true) true fuel 43 [.slice a0 len cap] = some x) :
    ∃ L : List RP, L.length = len ∧ RIs W a0 L ∧ (∀ r ∈ L, r.val.size ≤ 9223372036854775807) ∧ len ≤ 9223372036854775807 ∧ (L ≠ [] → ∃ b off, a0 = some ⟨b, off, none⟩) := by
  rcases open_slice Tryz.underlying43 h with ⟨h0, _⟩ | ⟨a, len', cap', m, n, D, Pl, hcs, _, hlc, hcm, hm, rfl, hx⟩
  · cases h0
    exact ⟨[], rfl, fun i r h => by simp at h, (fun r hr => by cases hr), by omega, fun h => absurd rfl h⟩
  · cases hcs
    rcases Nat.eq_zero_or_pos len with hz | hpos
    · subst hz
      exact ⟨[], rfl, fun i r h => by simp at h, (fun r hr => by cases hr), by omega, fun h => absurd rfl h⟩
    rw [Tryz.cellsRcp] at hx
    have hlm : len ≤ m := by rw [hm]; simp; exact hlc
    obtain ⟨b, off, spot⟩ := a
    have hcell : ∀ i, i < len → ∃ q : RP, (∀ j, j < 5 → W.cell? (((⟨b, off, spot⟩ : Addr).add (i * 5)).add j) = q.cs[j]?) ∧ q.val.size ≤ maxLen := by
      intro i hi
      obtain ⟨cs', h1, h2⟩ := hx i (by omega)
      obtain ⟨r, rfl, hv⟩ := open_rcp h2
      obtain ⟨_, _, h3⟩ := World.cells?_some h1
      exact ⟨r, h3, hv⟩
    have hch : ∃ Q : Nat → RP, ∀ i, i < len → (∀ j, j < 5 → W.cell? (((⟨b, off, spot⟩ : Addr).add (i * 5)).add j) = (Q i).cs[j]?) ∧ (Q i).val.size ≤ maxLen := by
      refine ⟨fun i => open Classical in if hi : i < len then (hcell i hi).choose else ⟨0, 0, 0, 0, ⟨#[]⟩⟩, fun i hi => ?_⟩
      simp only [dif_pos hi]
      exact (hcell i hi).choose_spec
    obtain ⟨Q, hQ⟩ := hch
    have hsp : spot = none := by
      have h0 := (hQ 0 hpos).1 0 (by omega)
      have := World.cell?_spot (w := W) (a := ⟨b, off, spot⟩) (v := .int .i64 (Q 0).cnt) (by simpa [Addr.add, RP.cs] using h0)
      exact this
    subst hsp
    have hlt : b < W.heap.size := by
      have h0 := (hQ 0 hpos).1 0 (by omega)
      exact World.block_lt_of_cell? W ⟨b, off, none⟩ (u := .int .i64 (Q 0).cnt) (by simpa [Addr.add, RP.cs] using h0)
    have had : ∀ i j, ((⟨b, off, none⟩ : Addr).add (i * 5)).add j = ⟨b, off + i * 5 + j, none⟩ := by
      intro i j
      rw [add_none', add_none']
    refine ⟨(List.range len).map Q, by simp, ?_, ?_, by unfold maxLen at hcm; omega, fun _ => ⟨b, off, rfl⟩⟩
    · intro i r hr
      have hi : i < len := by
        rcases Nat.lt_or_ge i len with h | h
        · exact h
        · rw [List.getElem?_eq_none (by simpa using h)] at hr; cases hr
      have hr' : Q i = r := by
        rw [List.getElem?_map, List.getElem?_range hi] at hr
        simpa using hr
      subst hr'
      have hc := (hQ i hi).1
      refine ⟨b, off, rfl, hlt, ?_, ?_, ?_, ?_, ?_⟩
      · have := hc 0 (by omega); rw [had] at this; simpa [RP.cs] using this
      · have := hc 1 (by omega); rw [had] at this; simpa [RP.cs] using this
      · have := hc 2 (by omega); rw [had] at this; simpa [RP.cs] using this
      · have := hc 3 (by omega); rw [had] at this; simpa [RP.cs] using this
      · have := hc 4 (by omega); rw [had] at this; simpa [RP.cs] using this
    · intro r hr
      simp only [List.mem_map, List.mem_range] at hr
      obtain ⟨i, hi, rfl⟩ := hr
      have := (hQ i hi).2
      unfold maxLen at this
      omega
end Go.Proofs.YtmokjopffgmfjaaGreatDoor
