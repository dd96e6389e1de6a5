/- A slice of records that came in: what its cells hold, and what its bulk bounds. -/
import Derived.Test.YtpjjenhimnkdcaaRows
import Derived.Test.YtpjjenhimnkdcaaV07
import Derived.ProofKit
import Derived.Deep.Slices
import Derived.ChangeArms
namespace Go.Proofs.Ytpjjenhimnkdcaa
open Go.RowKit Go.Deep
set_option linter.unusedVariables false

theorem Try.cellsRec : Try.prog.cellsOf 47 = 4 := by kernel_rfl
theorem Try.cellsInt : Try.prog.cellsOf 3 = 1 := by kernel_rfl
theorem Try.cellsStr : Try.prog.cellsOf 9 = 1 := by kernel_rfl
theorem Try.cellsBool : Try.prog.cellsOf 4 = 1 := by kernel_rfl
theorem add_none (b off n : Nat) : (⟨b, off, none⟩ : Addr).add n = ⟨b, off + n, none⟩ := by
  unfold Addr.add
  split
  · next h => subst h; rfl
  · rfl
theorem open_rec {H : Type} {enc : TypeId × Value → H} {W : World} {n : Nat} {cs : List Value} {y : DataW H × List MemPlace} (h : DataW.trod enc Try.prog W 0 (fun _ => true) true n 47 cs = some y) :
    ∃ r : Rec, cs = r.cs ∧ y.1 = .agg [.lit (.int .i64 r.off), .lit (.string r.key.data.toList), .lit (.string r.val.data.toList), .lit (.bool r.gone)] ∧ r.key.size ≤ maxLen ∧ r.val.size ≤ maxLen := by
  obtain ⟨xs, n', _, rfl, hl, hlen, hf⟩ := DataW.trod_struct Try.underlying47 h
  rw [Try.cellsRec] at hl
  match cs, hl, xs, hlen with
  | [c0, c1, c2, c3], _, [y0, y1, y2, y3], _ =>
    have f0 : DataW.trod enc Try.prog W 0 (fun _ => true) true n' 3 (([c0, c1, c2, c3].drop 0).take (Try.prog.cellsOf 3)) = some y0 := hf 0 _ rfl
    have f1 : DataW.trod enc Try.prog W 0 (fun _ => true) true n' 9 (([c0, c1, c2, c3].drop 1).take (Try.prog.cellsOf 9)) = some y1 := hf 1 _ rfl
    have f2 : DataW.trod enc Try.prog W 0 (fun _ => true) true n' 9 (([c0, c1, c2, c3].drop 2).take (Try.prog.cellsOf 9)) = some y2 := hf 2 _ rfl
    have f3 : DataW.trod enc Try.prog W 0 (fun _ => true) true n' 4 (([c0, c1, c2, c3].drop 3).take (Try.prog.cellsOf 4)) = some y3 := hf 3 _ rfl
    rw [Try.cellsInt] at f0
    rw [Try.cellsStr] at f1 f2
    rw [Try.cellsBool] at f3
    obtain ⟨k, e0, z0, _⟩ := DataW.trod_int Try.underlying3 f0
    obtain ⟨s, e1, z1, hs⟩ := DataW.trod_string Try.underlying9 f1
    obtain ⟨t, e2, z2, ht⟩ := DataW.trod_string Try.underlying9 f2
    obtain ⟨g, e3, z3⟩ := DataW.trod_bool Try.underlying4 f3
    simp at e0 e1 e2 e3
    subst e0 e1 e2 e3
    subst z0 z1 z2 z3
    exact ⟨⟨k, s, t, g⟩, rfl, rfl, hs, ht⟩
theorem bulk_append {H : Type} (l r : List (DataW H)) : Rows.uptoBulkAll (l ++ r) = Rows.uptoBulkAll l + Rows.uptoBulkAll r := by
  induction l with
  | nil => simp [Rows.uptoBulkAll]
  | cons x l ih => simp only [List.cons_append, Rows.uptoBulkAll, ih]; omega
theorem bulk_len {H : Type} (n : Nat) (Q : Nat → Rec) :
    n ≤ Rows.uptoBulkAll (H := H) ((List.range n).map fun i => .agg [.lit (.int .i64 (Q i).off), .lit (.string (Q i).key.data.toList), .lit (.string (Q i).val.data.toList), .lit (.bool (Q i).gone)]) := by
  induction n with
  | zero => exact Nat.zero_le _
  | succ n ih =>
    rw [List.range_succ, List.map_append, bulk_append]
    simp only [List.map_cons, List.map_nil, Rows.uptoBulkAll, Rows.uptoBulk]
    omega
theorem open_recs {H : Type} {enc : TypeId × Value → H} {W : World} {fuel : Nat} {a0 : Option Addr} {len cap : Nat} {x : DataW H × List MemPlace} (h : DataW.trod enc Try.prog W 0 (fun _ => true) true fuel 31 [.slice a0 len cap] = some x) :
    ∃ L : List Rec, L.length = len ∧ RIn W a0 L ∧ Sized L ∧ len ≤ 9223372036854775807 ∧ len ≤ Rows.uptoBulk x.1 ∧ (L ≠ [] → cap ≤ 9223372036854775807 ∧ ∃ b off, a0 = some ⟨b, off, none⟩) := by
  rcases open_slice Try.underlying31 h with ⟨h0, _⟩ | ⟨a, len', cap', m, n, D, Pl, hcs, _, hlc, hcm, hm, rfl, hx⟩
  · cases h0
    exact ⟨[], rfl, RIn.nil _ _, (fun r hr => by cases hr), by omega, Nat.zero_le _, fun h => absurd rfl h⟩
  · cases hcs
    rcases Nat.eq_zero_or_pos len with hz | hpos
    · subst hz
      exact ⟨[], rfl, RIn.nil _ _, (fun r hr => by cases hr), by omega, Nat.zero_le _, fun h => absurd rfl h⟩
    rw [Try.cellsRec] at hx
    have hlm : len ≤ m := by rw [hm]; simp; exact hlc
    obtain ⟨b, off, spot⟩ := a
    have hcell : ∀ i, i < len → ∃ q : Rec, ((∀ j, j < 4 → W.cell? (((⟨b, off, spot⟩ : Addr).add (i * 4)).add j) = q.cs[j]?) ∧ q.key.size ≤ maxLen ∧ q.val.size ≤ maxLen) ∧
        D i = .agg [.lit (.int .i64 q.off), .lit (.string q.key.data.toList), .lit (.string q.val.data.toList), .lit (.bool q.gone)] := by
      intro i hi
      obtain ⟨cs', h1, h2⟩ := hx i (by omega)
      obtain ⟨r, rfl, hd, hk, hv⟩ := open_rec h2
      obtain ⟨_, _, h3⟩ := World.cells?_some h1
      exact ⟨r, ⟨h3, hk, hv⟩, hd⟩
    have hnz : ∃ q : Rec, True := ⟨⟨0, ⟨#[]⟩, ⟨#[]⟩, false⟩, trivial⟩
    have hch : ∃ Q : Nat → Rec, ∀ i, i < len → ((∀ j, j < 4 → W.cell? (((⟨b, off, spot⟩ : Addr).add (i * 4)).add j) = (Q i).cs[j]?) ∧ (Q i).key.size ≤ maxLen ∧ (Q i).val.size ≤ maxLen) ∧
        D i = .agg [.lit (.int .i64 (Q i).off), .lit (.string (Q i).key.data.toList), .lit (.string (Q i).val.data.toList), .lit (.bool (Q i).gone)] := by
      refine ⟨fun i => open Classical in if hi : i < len then (hcell i hi).choose else ⟨0, ⟨#[]⟩, ⟨#[]⟩, false⟩, fun i hi => ?_⟩
      simp only [dif_pos hi]
      exact (hcell i hi).choose_spec
    obtain ⟨Q, hQ⟩ := hch
    have hsp : spot = none := by
      have h0 := (hQ 0 hpos).1.1 0 (by omega)
      have := World.cell?_spot (w := W) (a := ⟨b, off, spot⟩) (v := .int .i64 (Q 0).off) (by simpa [Addr.add, Rec.cs] using h0)
      exact this
    subst hsp
    have hlt : b < W.heap.size := by
      have h0 := (hQ 0 hpos).1.1 0 (by omega)
      exact World.block_lt_of_cell? W ⟨b, off, none⟩ (u := .int .i64 (Q 0).off) (by simpa [Addr.add, Rec.cs] using h0)
    have had : ∀ i j, ((⟨b, off, none⟩ : Addr).add (i * 4)).add j = ⟨b, off + i * 4 + j, none⟩ := by
      intro i j
      rw [add_none, add_none]
    refine ⟨(List.range len).map Q, by simp, ?_, ?_, by unfold maxLen at hcm; omega, ?_, fun _ => ⟨by unfold maxLen at hcm; omega, b, off, rfl⟩⟩
    · intro i r hr
      have hi : i < len := by
        rcases Nat.lt_or_ge i len with h | h
        · exact h
        · rw [List.getElem?_eq_none (by simpa using h)] at hr; cases hr
      have hr' : Q i = r := by
        rw [List.getElem?_map, List.getElem?_range hi] at hr
        simpa using hr
      subst hr'
      have hc := (hQ i hi).1.1
      refine ⟨b, off, rfl, hlt, ?_, ?_, ?_, ?_⟩
      · have := hc 0 (by omega); rw [had] at this; simpa [Rec.cs] using this
      · have := hc 1 (by omega); rw [had] at this; simpa [Rec.cs] using this
      · have := hc 2 (by omega); rw [had] at this; simpa [Rec.cs] using this
      · have := hc 3 (by omega); rw [had] at this; simpa [Rec.cs] using this
    · intro r hr
      simp only [List.mem_map, List.mem_range] at hr
      obtain ⟨i, hi, rfl⟩ := hr
      have := (hQ i hi).1
      unfold maxLen at this
      omega
    · have e : (List.range len).map D = (List.range len).map fun i => .agg [.lit (.int .i64 (Q i).off), .lit (.string (Q i).key.data.toList), .lit (.string (Q i).val.data.toList), .lit (.bool (Q i).gone)] :=
        List.map_congr_left (fun i hi => (hQ i (List.mem_range.1 hi)).2)
      have hb := bulk_len (H := H) len Q
      rw [← e] at hb
      simp only [Rows.uptoBulk]
      omega
end Go.Proofs.Ytpjjenhimnkdcaa
